/- What is printed is parsed to what it was, and the other way round: the walk of the law. -/
import Derived.Test.YtcobadgpelhcoaaDoorFMath
import Derived.Test.YtcobadgpelhcoaaDoorSAwake
import Derived.Deep.Cut
import Derived.Deep.CutRange
namespace Go.Proofs.YtcobadgpelhcoaaDoor
open Go.Conc Go.RowKit
set_option linter.unusedVariables false
set_option linter.unusedSimpArgs false

theorem JIn.jin_all2 {F : Nat → Prop} {w : World} {j : J} {c : List Value} (h : JIn F w j c) : JIn (fun g => g < w.heap.size) w j c := h.mono fun g hg _ => hg
theorem bmk2 (l : List UInt8) : (⟨l.toArray⟩ : ByteArray).data.toList = l := by simp
theorem err_ne {c : Int} (h : c = 300 ∨ c = 301 ∨ c = 302) : (c == 0) = false ∧ (c != 0) = true := by
  rcases h with rfl | rfl | rfl <;> decide

set_option maxHeartbeats 8000000 in
set_option maxRecDepth 100000 in
theorem jback_no_no (B : Nat) (j : J) (x0 x1 x2 x3 x4 x5 : Value) (s : ByteArray) (w : World) (hj : JIn (fun g => g < w.heap.size) w j [x0, x1, x2, x3, x4, x5]) (hm : JSm j) (hs : s.size ≤ 140737488351232) (ht : TabLow B w) (hB : B ≤ w.heap.size) (ca : Int) (hpj : printN j = .error ca) (cb : Int) (hps : parseN numD s.data.toList = .error cb) :
    Calls Tryd.prog 5 #[.agg #[x0, x1, x2, x3, x4, x5], .string s] w fun e w' => e = .returned (.bool true) ∧ Below w.heap.size w w' := by
  have hbox := (Below.refl _ w).alloc (Nat.le_refl _) (.cells #[x0, x1, x2, x3, x4, x5] 25)
  have hbs := hbox.size
  have HTU : Hid (∀ u : World, Below w.heap.size w u → TabLow B u ∧ B ≤ u.heap.size) := fun u hu => ⟨ht.keep fun g hg => hu.block g (by omega), by have := hu.size; omega⟩
  have HA := Lib.hid (jawake_any B _ (HTU.out _ hbox).1 (HTU.out _ hbox).2)
  have HPJ : Hid (∀ u : World, Below w.heap.size w u → Calls Tryd.prog 15 #[.agg #[x0, x1, x2, x3, x4, x5]] u fun e w' => e = .returned (.tuple #[.string ⟨#[]⟩, .int .i64 ca]) ∧ Below u.heap.size u w') := by
    intro u hu
    have hp := jprint_any B j [x0, x1, x2, x3, x4, x5] u (jin_below hj hu).jin_all2 hm (HTU.out u hu).1 (HTU.out u hu).2
    rw [hpj] at hp
    exact hp
  have HPS : Hid (∀ u : World, Calls Tryd.prog 10 #[.string s] u fun e w' => e = .returned (.tuple #[zJ, .int .i64 cb]) ∧ Below u.heap.size u w') := by
    intro u
    have hp := jparse_any s u hs
    rw [hps] at hp
    exact hp
  have HSN := Lib.hid (same_json (jsm_scal 0 false 0 ByteArray.empty (by decide) (by decide)))
  have hca := err_ne (e3_print j _ hpj)
  obtain ⟨hca1, hca2⟩ := hca
  have hcb := err_ne (e3_parse _ _ hps)
  obtain ⟨hcb1, hcb2⟩ := hcb
  clear hps hpj
  have HX := Lib.hid (j6_new w x0 x1 x2 x3 x4 x5)
  have HBX := Lib.hid hbox
  clear hbox hbs hj hm ht
  go_enter Tryd.func5, Tryd.ntmps5
  go_upto_region 9 with (first
      | (go_at_call 14; refine HA.out.mono ?_; rintro e w1 ⟨rfl, hb1⟩
         have h6 := j6_below HX.out hb1
         have x0 := h6.c0; have x1 := h6.c1; have x2 := h6.c2; have x3 := h6.c3; have x4 := h6.c4; have x5 := h6.c5
         have HB1 := Lib.hid (HBX.out.trans (hb1.mono HBX.out.size)); clear hb1 h6)
      | (go_at_call 15; refine (HPJ.out _ (HB1.out)).mono ?_; rintro e w2 ⟨rfl, hb2⟩; have HB9 := Lib.hid (HB1.out.trans (hb2.mono HB1.out.size)); clear hb2)
      | (go_at_call 13; refine (num_any _ _).mono ?_; rintro e w' ⟨rfl, rfl⟩))
  go_wp2_with (first
      | (go_at_call 10; refine (HPS.out _).mono ?_; rintro e w5 ⟨he, hb5⟩; unfold zJ at he; subst he
         have h6 := j6_new w5 (.int .i64 0) (.bool false) (.int .i64 0) (.string ⟨#[]⟩) (.slice none 0 0) (.slice none 0 0)
         have r0 := h6.c0; have r1 := h6.c1; have r2 := h6.c2; have r3 := h6.c3; have r4 := h6.c4; have r5 := h6.c5
         have HB5 := Lib.hid (HB9.out.trans (hb5.mono HB9.out.size)); clear hb5 h6)
      | (go_at_call 12
         have hal := (Below.refl _ w5).alloc (Nat.le_refl _) (.cells #[.int .i64 0, .bool false, .int .i64 0, .string ⟨#[]⟩, .slice none 0 0, .slice none 0 0] 25)
         refine (HSN.out (fun _ => True) (fun _ => True) [.int .i64 0, .bool false, .int .i64 0, .string ⟨#[]⟩, .slice none 0 0, .slice none 0 0] [.int .i64 0, .bool false, .int .i64 0, .string ⟨#[]⟩, .slice none 0 0, .slice none 0 0] _ (JIn.plain 0 false 0 ByteArray.empty) (JIn.plain 0 false 0 ByteArray.empty)).mono ?_; rintro e w6 ⟨rfl, hb6⟩
         have hb56 := hal.trans (hb6.mono hal.size)
         have HBZ := Lib.hid (HB5.out.trans (hb56.mono HB5.out.size)); clear hal hb6 hb56)
      | (go_at_call 13; refine (num_any _ _).mono ?_; rintro e w' ⟨rfl, rfl⟩))
  · go_ret
    exact ⟨rfl, HBZ.out⟩

set_option maxHeartbeats 8000000 in
set_option maxRecDepth 100000 in
theorem jback_no_long (B : Nat) (j : J) (x0 x1 x2 x3 x4 x5 : Value) (s : ByteArray) (w : World) (hj : JIn (fun g => g < w.heap.size) w j [x0, x1, x2, x3, x4, x5]) (hm : JSm j) (hs : s.size ≤ 140737488351232) (ht : TabLow B w) (hB : B ≤ w.heap.size) (ca : Int) (hpj : printN j = .error ca) (k : J) (hps : parseN numD s.data.toList = .ok k) (hpk : printN k = .error 302) :
    Calls Tryd.prog 5 #[.agg #[x0, x1, x2, x3, x4, x5], .string s] w fun e w' => e = .returned (.bool true) ∧ Below w.heap.size w w' := by
  have hbox := (Below.refl _ w).alloc (Nat.le_refl _) (.cells #[x0, x1, x2, x3, x4, x5] 25)
  have hbs := hbox.size
  have HTU : Hid (∀ u : World, Below w.heap.size w u → TabLow B u ∧ B ≤ u.heap.size) := fun u hu => ⟨ht.keep fun g hg => hu.block g (by omega), by have := hu.size; omega⟩
  have HA := Lib.hid (jawake_any B _ (HTU.out _ hbox).1 (HTU.out _ hbox).2)
  have HPJ : Hid (∀ u : World, Below w.heap.size w u → Calls Tryd.prog 15 #[.agg #[x0, x1, x2, x3, x4, x5]] u fun e w' => e = .returned (.tuple #[.string ⟨#[]⟩, .int .i64 ca]) ∧ Below u.heap.size u w') := by
    intro u hu
    have hp := jprint_any B j [x0, x1, x2, x3, x4, x5] u (jin_below hj hu).jin_all2 hm (HTU.out u hu).1 (HTU.out u hu).2
    rw [hpj] at hp
    exact hp
  have HPS : Hid (∀ u : World, Calls Tryd.prog 10 #[.string s] u fun e w' => ∃ cs : List Value, e = .returned (.tuple #[.agg cs.toArray, .int .i64 0]) ∧ Below u.heap.size u w' ∧ JIn (fun g => u.heap.size ≤ g) w' k cs) := by
    intro u
    have hp := jparse_any s u hs
    rw [hps] at hp
    exact hp
  have HSN := Lib.hid (same_json (jsm_scal 0 false 0 ByteArray.empty (by decide) (by decide)))
  have hca := err_ne (e3_print j _ hpj)
  obtain ⟨hca1, hca2⟩ := hca
  have hsk := (parse_back hps).1
  have HPK : Hid (∀ (F : Nat → Prop) (c : List Value) (v : World), Below w.heap.size w v → JIn F v k c → Calls Tryd.prog 15 #[.agg c.toArray] v fun e w' => e = .returned (.tuple #[.string ⟨#[]⟩, .int .i64 302]) ∧ Below v.heap.size v w') := by
    intro F c v hv hj
    have hp := jprint_any B k c v hj.jin_all2 hsk (HTU.out v hv).1 (HTU.out v hv).2
    rw [hpk] at hp
    exact hp
  clear hpk
  clear hps hpj
  have HX := Lib.hid (j6_new w x0 x1 x2 x3 x4 x5)
  have HBX := Lib.hid hbox
  clear hbox hbs hj hm ht
  go_enter Tryd.func5, Tryd.ntmps5
  go_upto_region 9 with (first
      | (go_at_call 14; refine HA.out.mono ?_; rintro e w1 ⟨rfl, hb1⟩
         have h6 := j6_below HX.out hb1
         have x0 := h6.c0; have x1 := h6.c1; have x2 := h6.c2; have x3 := h6.c3; have x4 := h6.c4; have x5 := h6.c5
         have HB1 := Lib.hid (HBX.out.trans (hb1.mono HBX.out.size)); clear hb1 h6)
      | (go_at_call 15; refine (HPJ.out _ (HB1.out)).mono ?_; rintro e w2 ⟨rfl, hb2⟩; have HB9 := Lib.hid (HB1.out.trans (hb2.mono HB1.out.size)); clear hb2)
      | (go_at_call 13; refine (num_any _ _).mono ?_; rintro e w' ⟨rfl, rfl⟩))
  go_wp2_with (first
      | (go_at_call 10; refine (HPS.out _).mono ?_; rintro e w5 ⟨cs, rfl, hb5, hjc⟩
         obtain ⟨yk, yb, yn, ys, yla, yll, ylc, yka, ykl, ykc, rfl⟩ := hjc.form
         have HJY := Lib.hid hjc
         have HB5 := Lib.hid (HB9.out.trans (hb5.mono HB9.out.size))
         have h6 := j6_new w5 (.int .i64 yk) (.bool yb) (.int .i64 yn) (.string ys) (.slice yla yll ylc) (.slice yka ykl ykc)
         have r0 := h6.c0; have r1 := h6.c1; have r2 := h6.c2; have r3 := h6.c3; have r4 := h6.c4; have r5 := h6.c5
         clear hb5 hjc h6)
      | (go_at_call 15
         have hal := (Below.refl _ w5).alloc (Nat.le_refl _) (.cells #[.int .i64 yk, .bool yb, .int .i64 yn, .string ys, .slice yla yll ylc, .slice yka ykl ykc] 25)
         refine (HPK.out _ _ _ (HB5.out.trans (hal.mono HB5.out.size)) (jin_below HJY.out hal)).mono ?_; rintro e w6 ⟨rfl, hb6⟩
         have hb56 := hal.trans (hb6.mono hal.size)
         have HBZ := Lib.hid (HB5.out.trans (hb56.mono HB5.out.size)); clear hal hb6 hb56)
      | (go_at_call 13; refine (num_any _ _).mono ?_; rintro e w' ⟨rfl, rfl⟩))
  · go_ret
    exact ⟨rfl, HBZ.out⟩

set_option maxHeartbeats 8000000 in
set_option maxRecDepth 100000 in
theorem jback_no_yes (B : Nat) (j : J) (x0 x1 x2 x3 x4 x5 : Value) (s : ByteArray) (w : World) (hj : JIn (fun g => g < w.heap.size) w j [x0, x1, x2, x3, x4, x5]) (hm : JSm j) (hs : s.size ≤ 140737488351232) (ht : TabLow B w) (hB : B ≤ w.heap.size) (ca : Int) (hpj : printN j = .error ca) (k : J) (us : List UInt8) (hps : parseN numD s.data.toList = .ok k) (hpk : printN k = .ok us) (hpb : parseN numD us = .ok k) :
    Calls Tryd.prog 5 #[.agg #[x0, x1, x2, x3, x4, x5], .string s] w fun e w' => e = .returned (.bool true) ∧ Below w.heap.size w w' := by
  have hbox := (Below.refl _ w).alloc (Nat.le_refl _) (.cells #[x0, x1, x2, x3, x4, x5] 25)
  have hbs := hbox.size
  have HTU : Hid (∀ u : World, Below w.heap.size w u → TabLow B u ∧ B ≤ u.heap.size) := fun u hu => ⟨ht.keep fun g hg => hu.block g (by omega), by have := hu.size; omega⟩
  have HA := Lib.hid (jawake_any B _ (HTU.out _ hbox).1 (HTU.out _ hbox).2)
  have HPJ : Hid (∀ u : World, Below w.heap.size w u → Calls Tryd.prog 15 #[.agg #[x0, x1, x2, x3, x4, x5]] u fun e w' => e = .returned (.tuple #[.string ⟨#[]⟩, .int .i64 ca]) ∧ Below u.heap.size u w') := by
    intro u hu
    have hp := jprint_any B j [x0, x1, x2, x3, x4, x5] u (jin_below hj hu).jin_all2 hm (HTU.out u hu).1 (HTU.out u hu).2
    rw [hpj] at hp
    exact hp
  have HPS : Hid (∀ u : World, Calls Tryd.prog 10 #[.string s] u fun e w' => ∃ cs : List Value, e = .returned (.tuple #[.agg cs.toArray, .int .i64 0]) ∧ Below u.heap.size u w' ∧ JIn (fun g => u.heap.size ≤ g) w' k cs) := by
    intro u
    have hp := jparse_any s u hs
    rw [hps] at hp
    exact hp
  have HSN := Lib.hid (same_json (jsm_scal 0 false 0 ByteArray.empty (by decide) (by decide)))
  have hca := err_ne (e3_print j _ hpj)
  obtain ⟨hca1, hca2⟩ := hca
  have hsk := (parse_back hps).1
  have HSK := Lib.hid (same_json hsk)
  obtain ⟨U, hU⟩ : ∃ U : ByteArray, U = ⟨us.toArray⟩ := ⟨_, rfl⟩
  have hUl : U.data.toList = us := by rw [hU] <;> exact bmk2 us
  have hUz : U.size ≤ 65536 := by rw [show U.size = U.data.toList.length from (Array.length_toList).symm, hUl]; exact (print_fm hsk hpk).2.2
  have HP3 : Hid (∀ v : World, Calls Tryd.prog 10 #[.string U] v fun e w' => ∃ cs : List Value, e = .returned (.tuple #[.agg cs.toArray, .int .i64 0]) ∧ Below v.heap.size v w' ∧ JIn (fun g => v.heap.size ≤ g) w' k cs) := by
    intro v
    have hp := jparse_any U v (Nat.le_trans hUz (by decide))
    rw [hUl, hpb] at hp
    exact hp
  have HPK : Hid (∀ (F : Nat → Prop) (c : List Value) (v : World), Below w.heap.size w v → JIn F v k c → Calls Tryd.prog 15 #[.agg c.toArray] v fun e w' => e = .returned (.tuple #[.string U, .int .i64 0]) ∧ Below v.heap.size v w') := by
    intro F c v hv hj
    have hp := jprint_any B k c v hj.jin_all2 hsk (HTU.out v hv).1 (HTU.out v hv).2
    rw [hpk] at hp
    rw [hU]
    exact hp
  clear hU hUl hpk hpb
  clear hps hpj
  have HX := Lib.hid (j6_new w x0 x1 x2 x3 x4 x5)
  have HBX := Lib.hid hbox
  clear hbox hbs hj hm ht
  go_enter Tryd.func5, Tryd.ntmps5
  go_upto_region 9 with (first
      | (go_at_call 14; refine HA.out.mono ?_; rintro e w1 ⟨rfl, hb1⟩
         have h6 := j6_below HX.out hb1
         have x0 := h6.c0; have x1 := h6.c1; have x2 := h6.c2; have x3 := h6.c3; have x4 := h6.c4; have x5 := h6.c5
         have HB1 := Lib.hid (HBX.out.trans (hb1.mono HBX.out.size)); clear hb1 h6)
      | (go_at_call 15; refine (HPJ.out _ (HB1.out)).mono ?_; rintro e w2 ⟨rfl, hb2⟩; have HB9 := Lib.hid (HB1.out.trans (hb2.mono HB1.out.size)); clear hb2)
      | (go_at_call 13; refine (num_any _ _).mono ?_; rintro e w' ⟨rfl, rfl⟩))
  go_wp2_with (first
      | (go_at_call 10; have hx := HB6.out; clear hx; refine (HP3.out _).mono ?_; rintro e w7 ⟨cs, rfl, hb7, hjc⟩
         obtain ⟨zk, zb, zn, zs, zla, zll, zlc, zka, zkl, zkc, rfl⟩ := hjc.form
         have HJZ := Lib.hid hjc
         have HB7 := Lib.hid hb7
         have h6 := j6_new w7 (.int .i64 zk) (.bool zb) (.int .i64 zn) (.string zs) (.slice zla zll zlc) (.slice zka zkl zkc)
         have q0 := h6.c0; have q1 := h6.c1; have q2 := h6.c2; have q3 := h6.c3; have q4 := h6.c4; have q5 := h6.c5
         have hal2 := (Below.refl _ w7).alloc (Nat.le_refl _) (.cells #[.int .i64 zk, .bool zb, .int .i64 zn, .string zs, .slice zla zll zlc, .slice zka zkl zkc] 25)
         have h6y := j6_below (j6_below (j6_below (j6_new w5 (.int .i64 yk) (.bool yb) (.int .i64 yn) (.string ys) (.slice yla yll ylc) (.slice yka ykl ykc)) HB6.out) hb7) hal2
         have s0 := h6y.c0; have s1 := h6y.c1; have s2 := h6y.c2; have s3 := h6y.c3; have s4 := h6y.c4; have s5 := h6y.c5
         clear hb7 hjc h6 h6y hal2)
      | (go_at_call 10; refine (HPS.out _).mono ?_; rintro e w5 ⟨cs, rfl, hb5, hjc⟩
         obtain ⟨yk, yb, yn, ys, yla, yll, ylc, yka, ykl, ykc, rfl⟩ := hjc.form
         have HJY := Lib.hid hjc
         have HB5 := Lib.hid (HB9.out.trans (hb5.mono HB9.out.size))
         have h6 := j6_new w5 (.int .i64 yk) (.bool yb) (.int .i64 yn) (.string ys) (.slice yla yll ylc) (.slice yka ykl ykc)
         have r0 := h6.c0; have r1 := h6.c1; have r2 := h6.c2; have r3 := h6.c3; have r4 := h6.c4; have r5 := h6.c5
         clear hb5 hjc h6)
      | (go_at_call 15
         have hal := (Below.refl _ w5).alloc (Nat.le_refl _) (.cells #[.int .i64 yk, .bool yb, .int .i64 yn, .string ys, .slice yla yll ylc, .slice yka ykl ykc] 25)
         refine (HPK.out _ _ _ (HB5.out.trans (hal.mono HB5.out.size)) (jin_below HJY.out hal)).mono ?_; rintro e w6 ⟨rfl, hb6⟩
         have HB6 := Lib.hid hb6
         have HA6 := Lib.hid hal
         clear hal hb6)
      | (go_at_call 12
         have hal := (Below.refl _ w7).alloc (Nat.le_refl _) (.cells #[.int .i64 zk, .bool zb, .int .i64 zn, .string zs, .slice zla zll zlc, .slice zka zkl zkc] 25)
         refine (HSK.out _ _ [.int .i64 zk, .bool zb, .int .i64 zn, .string zs, .slice zla zll zlc, .slice zka zkl zkc] [.int .i64 yk, .bool yb, .int .i64 yn, .string ys, .slice yla yll ylc, .slice yka ykl ykc] _ (jin_below HJZ.out hal) (jin_below (jin_below (jin_below (jin_below HJY.out HA6.out) HB6.out) HB7.out) hal)).mono ?_; rintro e w8 ⟨rfl, hb8⟩
         have hb78 := hal.trans (hb8.mono hal.size)
         have hb68 := HB7.out.trans (hb78.mono HB7.out.size)
         have hb58 := (HA6.out.trans (HB6.out.mono HA6.out.size))
         have hb58 := hb58.trans (hb68.mono hb58.size)
         have HBZ := Lib.hid (HB5.out.trans (hb58.mono HB5.out.size)); clear hal hb8 hb78 hb68 hb58)
      | (go_at_call 13; refine (num_any _ _).mono ?_; rintro e w' ⟨rfl, rfl⟩))
  · go_ret
    exact ⟨rfl, HBZ.out⟩

set_option maxHeartbeats 8000000 in
set_option maxRecDepth 100000 in
theorem jback_yes_no (B : Nat) (j : J) (x0 x1 x2 x3 x4 x5 : Value) (s : ByteArray) (w : World) (hj : JIn (fun g => g < w.heap.size) w j [x0, x1, x2, x3, x4, x5]) (hm : JSm j) (hs : s.size ≤ 140737488351232) (ht : TabLow B w) (hB : B ≤ w.heap.size) (bs : List UInt8) (hpj : printN j = .ok bs) (cb : Int) (hps : parseN numD s.data.toList = .error cb) :
    Calls Tryd.prog 5 #[.agg #[x0, x1, x2, x3, x4, x5], .string s] w fun e w' => e = .returned (.bool true) ∧ Below w.heap.size w w' := by
  have hbox := (Below.refl _ w).alloc (Nat.le_refl _) (.cells #[x0, x1, x2, x3, x4, x5] 25)
  have hbs := hbox.size
  have HTU : Hid (∀ u : World, Below w.heap.size w u → TabLow B u ∧ B ≤ u.heap.size) := fun u hu => ⟨ht.keep fun g hg => hu.block g (by omega), by have := hu.size; omega⟩
  have HA := Lib.hid (jawake_any B _ (HTU.out _ hbox).1 (HTU.out _ hbox).2)
  have HPJ : Hid (∀ u : World, Below w.heap.size w u → Calls Tryd.prog 15 #[.agg #[x0, x1, x2, x3, x4, x5]] u fun e w' => e = .returned (.tuple #[.string ⟨bs.toArray⟩, .int .i64 0]) ∧ Below u.heap.size u w') := by
    intro u hu
    have hp := jprint_any B j [x0, x1, x2, x3, x4, x5] u (jin_below hj hu).jin_all2 hm (HTU.out u hu).1 (HTU.out u hu).2
    rw [hpj] at hp
    exact hp
  have HPS : Hid (∀ u : World, Calls Tryd.prog 10 #[.string s] u fun e w' => e = .returned (.tuple #[zJ, .int .i64 cb]) ∧ Below u.heap.size u w') := by
    intro u
    have hp := jparse_any s u hs
    rw [hps] at hp
    exact hp
  have HSN := Lib.hid (same_json (jsm_scal 0 false 0 ByteArray.empty (by decide) (by decide)))
  obtain ⟨hf16, hpu, hbl⟩ := print_fm hm hpj
  have hpar := print_back hm hpj
  have hsu := clean_sm 16 _ (parse_clean hpar)
  generalize usedN 16 j = u at *
  obtain ⟨T, hT⟩ : ∃ T : ByteArray, T = ⟨bs.toArray⟩ := ⟨_, rfl⟩
  have hTl : T.data.toList = bs := by rw [hT] <;> exact bmk2 bs
  have hTz : T.size ≤ 65536 := by rw [show T.size = T.data.toList.length from (Array.length_toList).symm, hTl]; exact hbl
  rw [← hT] at HPJ
  have HP2 : Hid (∀ v : World, Calls Tryd.prog 10 #[.string T] v fun e w' => ∃ cs : List Value, e = .returned (.tuple #[.agg cs.toArray, .int .i64 0]) ∧ Below v.heap.size v w' ∧ JIn (fun g => v.heap.size ≤ g) w' u cs) := by
    intro v
    have hp := jparse_any T v (Nat.le_trans hTz (by decide))
    rw [hTl, hpar] at hp
    exact hp
  have HPU : Hid (∀ (F : Nat → Prop) (c : List Value) (v : World), Below w.heap.size w v → JIn F v u c → Calls Tryd.prog 15 #[.agg c.toArray] v fun e w' => e = .returned (.tuple #[.string T, .int .i64 0]) ∧ Below v.heap.size v w') := by
    intro F c v hv hj
    have hp := jprint_any B u c v hj.jin_all2 hsu (HTU.out v hv).1 (HTU.out v hv).2
    rw [hpu] at hp
    rw [hT]
    exact hp
  have hTT : (T.toList == T.toList) = true := by simp
  clear hf16 hpar hbl hpu hT hTl
  have hcb := err_ne (e3_parse _ _ hps)
  obtain ⟨hcb1, hcb2⟩ := hcb
  clear hps hpj
  have HX := Lib.hid (j6_new w x0 x1 x2 x3 x4 x5)
  have HBX := Lib.hid hbox
  clear hbox hbs hj hm ht
  go_enter Tryd.func5, Tryd.ntmps5
  go_upto_region 9 with (first
      | (go_at_call 14; refine HA.out.mono ?_; rintro e w1 ⟨rfl, hb1⟩
         have h6 := j6_below HX.out hb1
         have x0 := h6.c0; have x1 := h6.c1; have x2 := h6.c2; have x3 := h6.c3; have x4 := h6.c4; have x5 := h6.c5
         have HB1 := Lib.hid (HBX.out.trans (hb1.mono HBX.out.size)); clear hb1 h6)
      | (go_at_call 10; refine (HP2.out _).mono ?_; rintro e w3 ⟨cs, rfl, hb3, hjc⟩
         obtain ⟨pk, pb, pn, ps, pla, pll, plc, pka, pkl, pkc, rfl⟩ := hjc.form
         have HJP := Lib.hid hjc
         have HB3 := Lib.hid (HB2.out.trans (hb3.mono HB2.out.size))
         have h6 := j6_new w3 (.int .i64 pk) (.bool pb) (.int .i64 pn) (.string ps) (.slice pla pll plc) (.slice pka pkl pkc)
         have r0 := h6.c0; have r1 := h6.c1; have r2 := h6.c2; have r3 := h6.c3; have r4 := h6.c4; have r5 := h6.c5
         clear hb3 hjc h6)
      | (go_at_call 15
         have hal := (Below.refl _ w3).alloc (Nat.le_refl _) (.cells #[.int .i64 pk, .bool pb, .int .i64 pn, .string ps, .slice pla pll plc, .slice pka pkl pkc] 25)
         refine (HPU.out _ _ _ (HB3.out.trans (hal.mono HB3.out.size)) (jin_below HJP.out hal)).mono ?_; rintro e w4 ⟨rfl, hb4⟩
         have hb34 := hal.trans (hb4.mono hal.size)
         have HB9 := Lib.hid (HB3.out.trans (hb34.mono HB3.out.size)); clear hal hb4 hb34)
      | (go_at_call 15; refine (HPJ.out _ (HB1.out)).mono ?_; rintro e w2 ⟨rfl, hb2⟩; have HB2 := Lib.hid (HB1.out.trans (hb2.mono HB1.out.size)); clear hb2)
      | (go_at_call 13; refine (num_any _ _).mono ?_; rintro e w' ⟨rfl, rfl⟩))
  go_wp2_with (first
      | (go_at_call 10; refine (HPS.out _).mono ?_; rintro e w5 ⟨he, hb5⟩; unfold zJ at he; subst he
         have h6 := j6_new w5 (.int .i64 0) (.bool false) (.int .i64 0) (.string ⟨#[]⟩) (.slice none 0 0) (.slice none 0 0)
         have r0 := h6.c0; have r1 := h6.c1; have r2 := h6.c2; have r3 := h6.c3; have r4 := h6.c4; have r5 := h6.c5
         have HB5 := Lib.hid (HB9.out.trans (hb5.mono HB9.out.size)); clear hb5 h6)
      | (go_at_call 12
         have hal := (Below.refl _ w5).alloc (Nat.le_refl _) (.cells #[.int .i64 0, .bool false, .int .i64 0, .string ⟨#[]⟩, .slice none 0 0, .slice none 0 0] 25)
         refine (HSN.out (fun _ => True) (fun _ => True) [.int .i64 0, .bool false, .int .i64 0, .string ⟨#[]⟩, .slice none 0 0, .slice none 0 0] [.int .i64 0, .bool false, .int .i64 0, .string ⟨#[]⟩, .slice none 0 0, .slice none 0 0] _ (JIn.plain 0 false 0 ByteArray.empty) (JIn.plain 0 false 0 ByteArray.empty)).mono ?_; rintro e w6 ⟨rfl, hb6⟩
         have hb56 := hal.trans (hb6.mono hal.size)
         have HBZ := Lib.hid (HB5.out.trans (hb56.mono HB5.out.size)); clear hal hb6 hb56)
      | (go_at_call 13; refine (num_any _ _).mono ?_; rintro e w' ⟨rfl, rfl⟩))
  · go_ret
    exact ⟨rfl, HBZ.out⟩

set_option maxHeartbeats 8000000 in
set_option maxRecDepth 100000 in
theorem jback_yes_long (B : Nat) (j : J) (x0 x1 x2 x3 x4 x5 : Value) (s : ByteArray) (w : World) (hj : JIn (fun g => g < w.heap.size) w j [x0, x1, x2, x3, x4, x5]) (hm : JSm j) (hs : s.size ≤ 140737488351232) (ht : TabLow B w) (hB : B ≤ w.heap.size) (bs : List UInt8) (hpj : printN j = .ok bs) (k : J) (hps : parseN numD s.data.toList = .ok k) (hpk : printN k = .error 302) :
    Calls Tryd.prog 5 #[.agg #[x0, x1, x2, x3, x4, x5], .string s] w fun e w' => e = .returned (.bool true) ∧ Below w.heap.size w w' := by
  have hbox := (Below.refl _ w).alloc (Nat.le_refl _) (.cells #[x0, x1, x2, x3, x4, x5] 25)
  have hbs := hbox.size
  have HTU : Hid (∀ u : World, Below w.heap.size w u → TabLow B u ∧ B ≤ u.heap.size) := fun u hu => ⟨ht.keep fun g hg => hu.block g (by omega), by have := hu.size; omega⟩
  have HA := Lib.hid (jawake_any B _ (HTU.out _ hbox).1 (HTU.out _ hbox).2)
  have HPJ : Hid (∀ u : World, Below w.heap.size w u → Calls Tryd.prog 15 #[.agg #[x0, x1, x2, x3, x4, x5]] u fun e w' => e = .returned (.tuple #[.string ⟨bs.toArray⟩, .int .i64 0]) ∧ Below u.heap.size u w') := by
    intro u hu
    have hp := jprint_any B j [x0, x1, x2, x3, x4, x5] u (jin_below hj hu).jin_all2 hm (HTU.out u hu).1 (HTU.out u hu).2
    rw [hpj] at hp
    exact hp
  have HPS : Hid (∀ u : World, Calls Tryd.prog 10 #[.string s] u fun e w' => ∃ cs : List Value, e = .returned (.tuple #[.agg cs.toArray, .int .i64 0]) ∧ Below u.heap.size u w' ∧ JIn (fun g => u.heap.size ≤ g) w' k cs) := by
    intro u
    have hp := jparse_any s u hs
    rw [hps] at hp
    exact hp
  have HSN := Lib.hid (same_json (jsm_scal 0 false 0 ByteArray.empty (by decide) (by decide)))
  obtain ⟨hf16, hpu, hbl⟩ := print_fm hm hpj
  have hpar := print_back hm hpj
  have hsu := clean_sm 16 _ (parse_clean hpar)
  generalize usedN 16 j = u at *
  obtain ⟨T, hT⟩ : ∃ T : ByteArray, T = ⟨bs.toArray⟩ := ⟨_, rfl⟩
  have hTl : T.data.toList = bs := by rw [hT] <;> exact bmk2 bs
  have hTz : T.size ≤ 65536 := by rw [show T.size = T.data.toList.length from (Array.length_toList).symm, hTl]; exact hbl
  rw [← hT] at HPJ
  have HP2 : Hid (∀ v : World, Calls Tryd.prog 10 #[.string T] v fun e w' => ∃ cs : List Value, e = .returned (.tuple #[.agg cs.toArray, .int .i64 0]) ∧ Below v.heap.size v w' ∧ JIn (fun g => v.heap.size ≤ g) w' u cs) := by
    intro v
    have hp := jparse_any T v (Nat.le_trans hTz (by decide))
    rw [hTl, hpar] at hp
    exact hp
  have HPU : Hid (∀ (F : Nat → Prop) (c : List Value) (v : World), Below w.heap.size w v → JIn F v u c → Calls Tryd.prog 15 #[.agg c.toArray] v fun e w' => e = .returned (.tuple #[.string T, .int .i64 0]) ∧ Below v.heap.size v w') := by
    intro F c v hv hj
    have hp := jprint_any B u c v hj.jin_all2 hsu (HTU.out v hv).1 (HTU.out v hv).2
    rw [hpu] at hp
    rw [hT]
    exact hp
  have hTT : (T.toList == T.toList) = true := by simp
  clear hf16 hpar hbl hpu hT hTl
  have hsk := (parse_back hps).1
  have HPK : Hid (∀ (F : Nat → Prop) (c : List Value) (v : World), Below w.heap.size w v → JIn F v k c → Calls Tryd.prog 15 #[.agg c.toArray] v fun e w' => e = .returned (.tuple #[.string ⟨#[]⟩, .int .i64 302]) ∧ Below v.heap.size v w') := by
    intro F c v hv hj
    have hp := jprint_any B k c v hj.jin_all2 hsk (HTU.out v hv).1 (HTU.out v hv).2
    rw [hpk] at hp
    exact hp
  clear hpk
  clear hps hpj
  have HX := Lib.hid (j6_new w x0 x1 x2 x3 x4 x5)
  have HBX := Lib.hid hbox
  clear hbox hbs hj hm ht
  go_enter Tryd.func5, Tryd.ntmps5
  go_upto_region 9 with (first
      | (go_at_call 14; refine HA.out.mono ?_; rintro e w1 ⟨rfl, hb1⟩
         have h6 := j6_below HX.out hb1
         have x0 := h6.c0; have x1 := h6.c1; have x2 := h6.c2; have x3 := h6.c3; have x4 := h6.c4; have x5 := h6.c5
         have HB1 := Lib.hid (HBX.out.trans (hb1.mono HBX.out.size)); clear hb1 h6)
      | (go_at_call 10; refine (HP2.out _).mono ?_; rintro e w3 ⟨cs, rfl, hb3, hjc⟩
         obtain ⟨pk, pb, pn, ps, pla, pll, plc, pka, pkl, pkc, rfl⟩ := hjc.form
         have HJP := Lib.hid hjc
         have HB3 := Lib.hid (HB2.out.trans (hb3.mono HB2.out.size))
         have h6 := j6_new w3 (.int .i64 pk) (.bool pb) (.int .i64 pn) (.string ps) (.slice pla pll plc) (.slice pka pkl pkc)
         have r0 := h6.c0; have r1 := h6.c1; have r2 := h6.c2; have r3 := h6.c3; have r4 := h6.c4; have r5 := h6.c5
         clear hb3 hjc h6)
      | (go_at_call 15
         have hal := (Below.refl _ w3).alloc (Nat.le_refl _) (.cells #[.int .i64 pk, .bool pb, .int .i64 pn, .string ps, .slice pla pll plc, .slice pka pkl pkc] 25)
         refine (HPU.out _ _ _ (HB3.out.trans (hal.mono HB3.out.size)) (jin_below HJP.out hal)).mono ?_; rintro e w4 ⟨rfl, hb4⟩
         have hb34 := hal.trans (hb4.mono hal.size)
         have HB9 := Lib.hid (HB3.out.trans (hb34.mono HB3.out.size)); clear hal hb4 hb34)
      | (go_at_call 15; refine (HPJ.out _ (HB1.out)).mono ?_; rintro e w2 ⟨rfl, hb2⟩; have HB2 := Lib.hid (HB1.out.trans (hb2.mono HB1.out.size)); clear hb2)
      | (go_at_call 13; refine (num_any _ _).mono ?_; rintro e w' ⟨rfl, rfl⟩))
  go_wp2_with (first
      | (go_at_call 10; refine (HPS.out _).mono ?_; rintro e w5 ⟨cs, rfl, hb5, hjc⟩
         obtain ⟨yk, yb, yn, ys, yla, yll, ylc, yka, ykl, ykc, rfl⟩ := hjc.form
         have HJY := Lib.hid hjc
         have HB5 := Lib.hid (HB9.out.trans (hb5.mono HB9.out.size))
         have h6 := j6_new w5 (.int .i64 yk) (.bool yb) (.int .i64 yn) (.string ys) (.slice yla yll ylc) (.slice yka ykl ykc)
         have r0 := h6.c0; have r1 := h6.c1; have r2 := h6.c2; have r3 := h6.c3; have r4 := h6.c4; have r5 := h6.c5
         clear hb5 hjc h6)
      | (go_at_call 15
         have hal := (Below.refl _ w5).alloc (Nat.le_refl _) (.cells #[.int .i64 yk, .bool yb, .int .i64 yn, .string ys, .slice yla yll ylc, .slice yka ykl ykc] 25)
         refine (HPK.out _ _ _ (HB5.out.trans (hal.mono HB5.out.size)) (jin_below HJY.out hal)).mono ?_; rintro e w6 ⟨rfl, hb6⟩
         have hb56 := hal.trans (hb6.mono hal.size)
         have HBZ := Lib.hid (HB5.out.trans (hb56.mono HB5.out.size)); clear hal hb6 hb56)
      | (go_at_call 13; refine (num_any _ _).mono ?_; rintro e w' ⟨rfl, rfl⟩))
  · go_ret
    exact ⟨rfl, HBZ.out⟩

set_option maxHeartbeats 8000000 in
set_option maxRecDepth 100000 in
theorem jback_yes_yes (B : Nat) (j : J) (x0 x1 x2 x3 x4 x5 : Value) (s : ByteArray) (w : World) (hj : JIn (fun g => g < w.heap.size) w j [x0, x1, x2, x3, x4, x5]) (hm : JSm j) (hs : s.size ≤ 140737488351232) (ht : TabLow B w) (hB : B ≤ w.heap.size) (bs : List UInt8) (hpj : printN j = .ok bs) (k : J) (us : List UInt8) (hps : parseN numD s.data.toList = .ok k) (hpk : printN k = .ok us) (hpb : parseN numD us = .ok k) :
    Calls Tryd.prog 5 #[.agg #[x0, x1, x2, x3, x4, x5], .string s] w fun e w' => e = .returned (.bool true) ∧ Below w.heap.size w w' := by
  have hbox := (Below.refl _ w).alloc (Nat.le_refl _) (.cells #[x0, x1, x2, x3, x4, x5] 25)
  have hbs := hbox.size
  have HTU : Hid (∀ u : World, Below w.heap.size w u → TabLow B u ∧ B ≤ u.heap.size) := fun u hu => ⟨ht.keep fun g hg => hu.block g (by omega), by have := hu.size; omega⟩
  have HA := Lib.hid (jawake_any B _ (HTU.out _ hbox).1 (HTU.out _ hbox).2)
  have HPJ : Hid (∀ u : World, Below w.heap.size w u → Calls Tryd.prog 15 #[.agg #[x0, x1, x2, x3, x4, x5]] u fun e w' => e = .returned (.tuple #[.string ⟨bs.toArray⟩, .int .i64 0]) ∧ Below u.heap.size u w') := by
    intro u hu
    have hp := jprint_any B j [x0, x1, x2, x3, x4, x5] u (jin_below hj hu).jin_all2 hm (HTU.out u hu).1 (HTU.out u hu).2
    rw [hpj] at hp
    exact hp
  have HPS : Hid (∀ u : World, Calls Tryd.prog 10 #[.string s] u fun e w' => ∃ cs : List Value, e = .returned (.tuple #[.agg cs.toArray, .int .i64 0]) ∧ Below u.heap.size u w' ∧ JIn (fun g => u.heap.size ≤ g) w' k cs) := by
    intro u
    have hp := jparse_any s u hs
    rw [hps] at hp
    exact hp
  have HSN := Lib.hid (same_json (jsm_scal 0 false 0 ByteArray.empty (by decide) (by decide)))
  obtain ⟨hf16, hpu, hbl⟩ := print_fm hm hpj
  have hpar := print_back hm hpj
  have hsu := clean_sm 16 _ (parse_clean hpar)
  generalize usedN 16 j = u at *
  obtain ⟨T, hT⟩ : ∃ T : ByteArray, T = ⟨bs.toArray⟩ := ⟨_, rfl⟩
  have hTl : T.data.toList = bs := by rw [hT] <;> exact bmk2 bs
  have hTz : T.size ≤ 65536 := by rw [show T.size = T.data.toList.length from (Array.length_toList).symm, hTl]; exact hbl
  rw [← hT] at HPJ
  have HP2 : Hid (∀ v : World, Calls Tryd.prog 10 #[.string T] v fun e w' => ∃ cs : List Value, e = .returned (.tuple #[.agg cs.toArray, .int .i64 0]) ∧ Below v.heap.size v w' ∧ JIn (fun g => v.heap.size ≤ g) w' u cs) := by
    intro v
    have hp := jparse_any T v (Nat.le_trans hTz (by decide))
    rw [hTl, hpar] at hp
    exact hp
  have HPU : Hid (∀ (F : Nat → Prop) (c : List Value) (v : World), Below w.heap.size w v → JIn F v u c → Calls Tryd.prog 15 #[.agg c.toArray] v fun e w' => e = .returned (.tuple #[.string T, .int .i64 0]) ∧ Below v.heap.size v w') := by
    intro F c v hv hj
    have hp := jprint_any B u c v hj.jin_all2 hsu (HTU.out v hv).1 (HTU.out v hv).2
    rw [hpu] at hp
    rw [hT]
    exact hp
  have hTT : (T.toList == T.toList) = true := by simp
  clear hf16 hpar hbl hpu hT hTl
  have hsk := (parse_back hps).1
  have HSK := Lib.hid (same_json hsk)
  obtain ⟨U, hU⟩ : ∃ U : ByteArray, U = ⟨us.toArray⟩ := ⟨_, rfl⟩
  have hUl : U.data.toList = us := by rw [hU] <;> exact bmk2 us
  have hUz : U.size ≤ 65536 := by rw [show U.size = U.data.toList.length from (Array.length_toList).symm, hUl]; exact (print_fm hsk hpk).2.2
  have HP3 : Hid (∀ v : World, Calls Tryd.prog 10 #[.string U] v fun e w' => ∃ cs : List Value, e = .returned (.tuple #[.agg cs.toArray, .int .i64 0]) ∧ Below v.heap.size v w' ∧ JIn (fun g => v.heap.size ≤ g) w' k cs) := by
    intro v
    have hp := jparse_any U v (Nat.le_trans hUz (by decide))
    rw [hUl, hpb] at hp
    exact hp
  have HPK : Hid (∀ (F : Nat → Prop) (c : List Value) (v : World), Below w.heap.size w v → JIn F v k c → Calls Tryd.prog 15 #[.agg c.toArray] v fun e w' => e = .returned (.tuple #[.string U, .int .i64 0]) ∧ Below v.heap.size v w') := by
    intro F c v hv hj
    have hp := jprint_any B k c v hj.jin_all2 hsk (HTU.out v hv).1 (HTU.out v hv).2
    rw [hpk] at hp
    rw [hU]
    exact hp
  clear hU hUl hpk hpb
  clear hps hpj
  have HX := Lib.hid (j6_new w x0 x1 x2 x3 x4 x5)
  have HBX := Lib.hid hbox
  clear hbox hbs hj hm ht
  go_enter Tryd.func5, Tryd.ntmps5
  go_upto_region 9 with (first
      | (go_at_call 14; refine HA.out.mono ?_; rintro e w1 ⟨rfl, hb1⟩
         have h6 := j6_below HX.out hb1
         have x0 := h6.c0; have x1 := h6.c1; have x2 := h6.c2; have x3 := h6.c3; have x4 := h6.c4; have x5 := h6.c5
         have HB1 := Lib.hid (HBX.out.trans (hb1.mono HBX.out.size)); clear hb1 h6)
      | (go_at_call 10; refine (HP2.out _).mono ?_; rintro e w3 ⟨cs, rfl, hb3, hjc⟩
         obtain ⟨pk, pb, pn, ps, pla, pll, plc, pka, pkl, pkc, rfl⟩ := hjc.form
         have HJP := Lib.hid hjc
         have HB3 := Lib.hid (HB2.out.trans (hb3.mono HB2.out.size))
         have h6 := j6_new w3 (.int .i64 pk) (.bool pb) (.int .i64 pn) (.string ps) (.slice pla pll plc) (.slice pka pkl pkc)
         have r0 := h6.c0; have r1 := h6.c1; have r2 := h6.c2; have r3 := h6.c3; have r4 := h6.c4; have r5 := h6.c5
         clear hb3 hjc h6)
      | (go_at_call 15
         have hal := (Below.refl _ w3).alloc (Nat.le_refl _) (.cells #[.int .i64 pk, .bool pb, .int .i64 pn, .string ps, .slice pla pll plc, .slice pka pkl pkc] 25)
         refine (HPU.out _ _ _ (HB3.out.trans (hal.mono HB3.out.size)) (jin_below HJP.out hal)).mono ?_; rintro e w4 ⟨rfl, hb4⟩
         have hb34 := hal.trans (hb4.mono hal.size)
         have HB9 := Lib.hid (HB3.out.trans (hb34.mono HB3.out.size)); clear hal hb4 hb34)
      | (go_at_call 15; refine (HPJ.out _ (HB1.out)).mono ?_; rintro e w2 ⟨rfl, hb2⟩; have HB2 := Lib.hid (HB1.out.trans (hb2.mono HB1.out.size)); clear hb2)
      | (go_at_call 13; refine (num_any _ _).mono ?_; rintro e w' ⟨rfl, rfl⟩))
  go_wp2_with (first
      | (go_at_call 10; have hx := HB6.out; clear hx; refine (HP3.out _).mono ?_; rintro e w7 ⟨cs, rfl, hb7, hjc⟩
         obtain ⟨zk, zb, zn, zs, zla, zll, zlc, zka, zkl, zkc, rfl⟩ := hjc.form
         have HJZ := Lib.hid hjc
         have HB7 := Lib.hid hb7
         have h6 := j6_new w7 (.int .i64 zk) (.bool zb) (.int .i64 zn) (.string zs) (.slice zla zll zlc) (.slice zka zkl zkc)
         have q0 := h6.c0; have q1 := h6.c1; have q2 := h6.c2; have q3 := h6.c3; have q4 := h6.c4; have q5 := h6.c5
         have hal2 := (Below.refl _ w7).alloc (Nat.le_refl _) (.cells #[.int .i64 zk, .bool zb, .int .i64 zn, .string zs, .slice zla zll zlc, .slice zka zkl zkc] 25)
         have h6y := j6_below (j6_below (j6_below (j6_new w5 (.int .i64 yk) (.bool yb) (.int .i64 yn) (.string ys) (.slice yla yll ylc) (.slice yka ykl ykc)) HB6.out) hb7) hal2
         have s0 := h6y.c0; have s1 := h6y.c1; have s2 := h6y.c2; have s3 := h6y.c3; have s4 := h6y.c4; have s5 := h6y.c5
         clear hb7 hjc h6 h6y hal2)
      | (go_at_call 10; refine (HPS.out _).mono ?_; rintro e w5 ⟨cs, rfl, hb5, hjc⟩
         obtain ⟨yk, yb, yn, ys, yla, yll, ylc, yka, ykl, ykc, rfl⟩ := hjc.form
         have HJY := Lib.hid hjc
         have HB5 := Lib.hid (HB9.out.trans (hb5.mono HB9.out.size))
         have h6 := j6_new w5 (.int .i64 yk) (.bool yb) (.int .i64 yn) (.string ys) (.slice yla yll ylc) (.slice yka ykl ykc)
         have r0 := h6.c0; have r1 := h6.c1; have r2 := h6.c2; have r3 := h6.c3; have r4 := h6.c4; have r5 := h6.c5
         clear hb5 hjc h6)
      | (go_at_call 15
         have hal := (Below.refl _ w5).alloc (Nat.le_refl _) (.cells #[.int .i64 yk, .bool yb, .int .i64 yn, .string ys, .slice yla yll ylc, .slice yka ykl ykc] 25)
         refine (HPK.out _ _ _ (HB5.out.trans (hal.mono HB5.out.size)) (jin_below HJY.out hal)).mono ?_; rintro e w6 ⟨rfl, hb6⟩
         have HB6 := Lib.hid hb6
         have HA6 := Lib.hid hal
         clear hal hb6)
      | (go_at_call 12
         have hal := (Below.refl _ w7).alloc (Nat.le_refl _) (.cells #[.int .i64 zk, .bool zb, .int .i64 zn, .string zs, .slice zla zll zlc, .slice zka zkl zkc] 25)
         refine (HSK.out _ _ [.int .i64 zk, .bool zb, .int .i64 zn, .string zs, .slice zla zll zlc, .slice zka zkl zkc] [.int .i64 yk, .bool yb, .int .i64 yn, .string ys, .slice yla yll ylc, .slice yka ykl ykc] _ (jin_below HJZ.out hal) (jin_below (jin_below (jin_below (jin_below HJY.out HA6.out) HB6.out) HB7.out) hal)).mono ?_; rintro e w8 ⟨rfl, hb8⟩
         have hb78 := hal.trans (hb8.mono hal.size)
         have hb68 := HB7.out.trans (hb78.mono HB7.out.size)
         have hb58 := (HA6.out.trans (HB6.out.mono HA6.out.size))
         have hb58 := hb58.trans (hb68.mono hb58.size)
         have HBZ := Lib.hid (HB5.out.trans (hb58.mono HB5.out.size)); clear hal hb8 hb78 hb68 hb58)
      | (go_at_call 13; refine (num_any _ _).mono ?_; rintro e w' ⟨rfl, rfl⟩))
  · go_ret
    exact ⟨rfl, HBZ.out⟩

theorem jsonBack_walk (B : Nat) (j : J) (x0 x1 x2 x3 x4 x5 : Value) (s : ByteArray) (w : World) (hj : JIn (fun g => g < w.heap.size) w j [x0, x1, x2, x3, x4, x5]) (hm : JSm j) (hs : s.size ≤ 140737488351232) (ht : TabLow B w) (hB : B ≤ w.heap.size) :
    Calls Tryd.prog 5 #[.agg #[x0, x1, x2, x3, x4, x5], .string s] w fun e w' => e = .returned (.bool true) ∧ Below w.heap.size w w' := by
  cases hpj : printN j with
  | error ca =>
    cases hps : parseN numD s.data.toList with
    | error cb => exact jback_no_no B j x0 x1 x2 x3 x4 x5 s w hj hm hs ht hB ca hpj cb hps
    | ok k =>
      rcases (parse_back hps).2 with hl | ⟨us, hpk, hpb⟩
      · exact jback_no_long B j x0 x1 x2 x3 x4 x5 s w hj hm hs ht hB ca hpj k hps hl
      · exact jback_no_yes B j x0 x1 x2 x3 x4 x5 s w hj hm hs ht hB ca hpj k us hps hpk hpb
  | ok bs =>
    cases hps : parseN numD s.data.toList with
    | error cb => exact jback_yes_no B j x0 x1 x2 x3 x4 x5 s w hj hm hs ht hB bs hpj cb hps
    | ok k =>
      rcases (parse_back hps).2 with hl | ⟨us, hpk, hpb⟩
      · exact jback_yes_long B j x0 x1 x2 x3 x4 x5 s w hj hm hs ht hB bs hpj k hps hl
      · exact jback_yes_yes B j x0 x1 x2 x3 x4 x5 s w hj hm hs ht hB bs hpj k us hps hpk hpb

end Go.Proofs.YtcobadgpelhcoaaDoor
