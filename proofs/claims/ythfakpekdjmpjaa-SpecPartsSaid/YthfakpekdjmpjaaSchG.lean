/- The program's schemas: Add, Drop, Rename. -/
import Derived.Test.YthfakpekdjmpjaaSchF
namespace Go.Proofs.Ythfakpekdjmpjaa
open Go.Conc Go.RowKit
set_option linter.unusedVariables false
set_option linter.unusedSimpArgs false

set_option maxRecDepth 100000 in
set_option maxHeartbeats 1000000 in
theorem schadd_any (w : World) (a : Option Addr) (c : Nat) (s : Sc) (nm : ByteArray) (k : Int) (ha : IsCo w a s.cs) (hn : a = none → s.cs.length = 0 ∧ c = 0) (hcap : s.cs.length ≤ c) (hl : s.cs.length ≤ maxLen) :
    Calls Try.prog 12 #[.agg #[.int .i64 s.id, .slice a s.cs.length c, .int .i64 s.next], .string nm, .int .i64 k] w (ScPost w (addA s nm k)) := by
  obtain ⟨u1, hu1⟩ : ∃ u1, u1 = w.alloc (.cells #[.int .i64 s.id, .slice a s.cs.length c, .int .i64 s.next] 24) := ⟨_, rfl⟩
  obtain ⟨u2, hu2⟩ : ∃ u2, u2 = u1.alloc (.cells #[.string nm] 9) := ⟨_, rfl⟩
  obtain ⟨u3, hu3⟩ : ∃ u3, u3 = u2.alloc (.cells #[.int .i64 k] 3) := ⟨_, rfl⟩
  obtain ⟨u, hu⟩ : ∃ u, u = u3.alloc (.cells #[.int .i64 0, .slice none 0 0, .int .i64 0] 24) := ⟨_, rfl⟩
  have z1 : u1.heap.size = w.heap.size + 1 := by rw [hu1]; simp
  have z2 : u2.heap.size = w.heap.size + 2 := by rw [hu2]; simp [z1]
  have z3 : u3.heap.size = w.heap.size + 3 := by rw [hu3]; simp [z2]
  have b1 : Below w.heap.size w u1 := by rw [hu1]; exact (Below.refl _ _).alloc (Nat.le_refl _) _
  have b2 : Below u1.heap.size u1 u2 := by rw [hu2]; exact (Below.refl _ _).alloc (Nat.le_refl _) _
  have b3 : Below u2.heap.size u2 u3 := by rw [hu3]; exact (Below.refl _ _).alloc (Nat.le_refl _) _
  have b4 : Below u3.heap.size u3 u := by rw [hu]; exact (Below.refl _ _).alloc (Nat.le_refl _) _
  have hbu : Below w.heap.size w u := ((b1.trans (b2.mono b1.size)).trans (b3.mono (by omega))).trans (b4.mono (by omega))
  have HS := Lib.hid (show ScSlot u w.heap.size a c s from (((show ScSlot u1 w.heap.size a c s by rw [hu1]; exact ScSlot.new w a c s).below b2).below b3).below b4)
  have HR := Lib.hid (show ScSlot u (w.heap.size + 3) none 0 zeroSc by rw [hu, ← z3]; exact ScSlot.new u3 none 0 zeroSc)
  have hn2 : u2.cell? ⟨w.heap.size + 1, 0, none⟩ = some (.string nm) := by rw [hu2, ← z1]; exact cell_of_row _ _ _ _ _ _ (heap_alloc_new u1 (.cells #[.string nm] 9))
  have hpn : u.cell? ⟨w.heap.size + 1, 0, none⟩ = some (.string nm) := (World.cell?_of_block (((b3.trans (b4.mono b3.size))).block _ (World.block_lt_of_cell? u2 ⟨w.heap.size + 1, 0, none⟩ hn2))).trans hn2
  have hk3 : u3.cell? ⟨w.heap.size + 2, 0, none⟩ = some (.int .i64 k) := by rw [hu3, ← z2]; exact cell_of_row _ _ _ _ _ _ (heap_alloc_new u2 (.cells #[.int .i64 k] 3))
  have hpk : u.cell? ⟨w.heap.size + 2, 0, none⟩ = some (.int .i64 k) := (World.cell?_of_block (b4.block _ (World.block_lt_of_cell? u3 ⟨w.heap.size + 2, 0, none⟩ hk3))).trans hk3
  have HB := Lib.hid hbu
  have T := Lib.hid (schchanged_add u a c s (w.heap.size + 1) (w.heap.size + 2) nm k (ha.below hbu) hn hcap hl hpn hpk)
  rw [changed_add] at T
  have hw : (((w.alloc (.cells #[.int .i64 s.id, .slice a s.cs.length c, .int .i64 s.next] 24)).alloc (.cells #[.string nm] 9)).alloc (.cells #[.int .i64 k] 3)).alloc (.cells #[.int .i64 0, .slice none 0 0, .int .i64 0] 24) = u := by rw [hu, hu3, hu2, hu1]
  generalize addA s nm k = R at *
  clear hu hu1 hu2 hu3 z1 z2 z3 b1 b2 b3 b4 hbu hn2 hpn hk3 hpk ha hn hcap hl
  obtain ⟨b0, b1, b2⟩ := HS.out.at
  go_enter Try.func12, Try.ntmps12
  go_upto_region 1 with fail
  clear hw
  go_wp2_with (go_at_call 50; refine T.out.mono ?_; rintro e w8 ⟨a3, c3, rfl, ho, hb⟩; have HO8 := Lib.hid ho; have HB8 := Lib.hid hb; have hr8 := HR.out.below hb; obtain ⟨z0, z1, z2⟩ := hr8.at; obtain ⟨y0, y1, y2⟩ := hr8.froz; simp only [zeroSc] at z0 z1 z2; have HR8 := Lib.hid hr8; clear ho hb hr8)
  change bodyPost _ _ _ _ _ (putSc w8 (w.heap.size + 3) a3 c3 R.1)
  have hp := HR8.out.put a3 c3 R.1
  have hpf := putSc_frm (g := w.heap.size + 3) (F := fun j => j = w.heap.size + 3) rfl w8 a3 c3 R.1
  generalize putSc w8 (w.heap.size + 3) a3 c3 R.1 = w99 at *
  clear z0 z1 z2 y0 y1 y2 b0 b1 b2
  obtain ⟨b0, b1, b2⟩ := hp.at
  refine bodyPost_ret (v := .tuple #[.agg #[.int .i64 R.1.id, .slice a3 R.1.cs.length c3, .int .i64 R.1.next], .int .i64 R.2]) (by simp [results, Try.results12, go_sem, b0, b1, b2]) rfl ?_
  exact ⟨a3, c3, rfl, (own_off HO8.out HR8.out hpf).lower HB.out.size, Frm.to_below (HB.out.trans (HB8.out.mono HB.out.size)) hpf (fun k e => by omega) (Nat.le_refl _)⟩
set_option maxRecDepth 100000 in
set_option maxHeartbeats 1000000 in
theorem schdrop_any (w : World) (a : Option Addr) (c : Nat) (s : Sc) (nm : ByteArray) (ha : IsCo w a s.cs) (hn : a = none → s.cs.length = 0 ∧ c = 0) (hcap : s.cs.length ≤ c) (hl : s.cs.length ≤ maxLen) :
    Calls Try.prog 14 #[.agg #[.int .i64 s.id, .slice a s.cs.length c, .int .i64 s.next], .string nm] w (ScPost w (dropA s nm)) := by
  obtain ⟨u1, hu1⟩ : ∃ u1, u1 = w.alloc (.cells #[.int .i64 s.id, .slice a s.cs.length c, .int .i64 s.next] 24) := ⟨_, rfl⟩
  obtain ⟨u2, hu2⟩ : ∃ u2, u2 = u1.alloc (.cells #[.string nm] 9) := ⟨_, rfl⟩
  obtain ⟨u, hu⟩ : ∃ u, u = u2.alloc (.cells #[.int .i64 0, .slice none 0 0, .int .i64 0] 24) := ⟨_, rfl⟩
  have z1 : u1.heap.size = w.heap.size + 1 := by rw [hu1]; simp
  have z2 : u2.heap.size = w.heap.size + 2 := by rw [hu2]; simp [z1]
  have b1 : Below w.heap.size w u1 := by rw [hu1]; exact (Below.refl _ _).alloc (Nat.le_refl _) _
  have b2 : Below u1.heap.size u1 u2 := by rw [hu2]; exact (Below.refl _ _).alloc (Nat.le_refl _) _
  have b4 : Below u2.heap.size u2 u := by rw [hu]; exact (Below.refl _ _).alloc (Nat.le_refl _) _
  have hbu : Below w.heap.size w u := (b1.trans (b2.mono b1.size)).trans (b4.mono (by omega))
  have HS := Lib.hid (show ScSlot u w.heap.size a c s from ((show ScSlot u1 w.heap.size a c s by rw [hu1]; exact ScSlot.new w a c s).below b2).below b4)
  have HR := Lib.hid (show ScSlot u (w.heap.size + 2) none 0 zeroSc by rw [hu, ← z2]; exact ScSlot.new u2 none 0 zeroSc)
  have hn2 : u2.cell? ⟨w.heap.size + 1, 0, none⟩ = some (.string nm) := by rw [hu2, ← z1]; exact cell_of_row _ _ _ _ _ _ (heap_alloc_new u1 (.cells #[.string nm] 9))
  have hpn : u.cell? ⟨w.heap.size + 1, 0, none⟩ = some (.string nm) := (World.cell?_of_block (b4.block _ (World.block_lt_of_cell? u2 ⟨w.heap.size + 1, 0, none⟩ hn2))).trans hn2
  have HB := Lib.hid hbu
  have T := Lib.hid (schchanged_drop u a c s (w.heap.size + 1) nm (ha.below hbu) hn hcap hl hpn)
  rw [changed_drop] at T
  have hw : ((w.alloc (.cells #[.int .i64 s.id, .slice a s.cs.length c, .int .i64 s.next] 24)).alloc (.cells #[.string nm] 9)).alloc (.cells #[.int .i64 0, .slice none 0 0, .int .i64 0] 24) = u := by rw [hu, hu2, hu1]
  generalize dropA s nm = R at *
  clear hu hu1 hu2 z1 z2 b1 b2 b4 hbu hn2 hpn ha hn hcap hl
  obtain ⟨b0, b1, b2⟩ := HS.out.at
  go_enter Try.func14, Try.ntmps14
  go_upto_region 1 with fail
  clear hw
  go_wp2_with (go_at_call 50; refine T.out.mono ?_; rintro e w8 ⟨a3, c3, rfl, ho, hb⟩; have HO8 := Lib.hid ho; have HB8 := Lib.hid hb; have hr8 := HR.out.below hb; obtain ⟨z0, z1, z2⟩ := hr8.at; obtain ⟨y0, y1, y2⟩ := hr8.froz; simp only [zeroSc] at z0 z1 z2; have HR8 := Lib.hid hr8; clear ho hb hr8)
  change bodyPost _ _ _ _ _ (putSc w8 (w.heap.size + 2) a3 c3 R.1)
  have hp := HR8.out.put a3 c3 R.1
  have hpf := putSc_frm (g := w.heap.size + 2) (F := fun j => j = w.heap.size + 2) rfl w8 a3 c3 R.1
  generalize putSc w8 (w.heap.size + 2) a3 c3 R.1 = w99 at *
  clear z0 z1 z2 y0 y1 y2 b0 b1 b2
  obtain ⟨b0, b1, b2⟩ := hp.at
  refine bodyPost_ret (v := .tuple #[.agg #[.int .i64 R.1.id, .slice a3 R.1.cs.length c3, .int .i64 R.1.next], .int .i64 R.2]) (by simp [results, Try.results14, go_sem, b0, b1, b2]) rfl ?_
  exact ⟨a3, c3, rfl, (own_off HO8.out HR8.out hpf).lower HB.out.size, Frm.to_below (HB.out.trans (HB8.out.mono HB.out.size)) hpf (fun k e => by omega) (Nat.le_refl _)⟩
set_option maxRecDepth 100000 in
set_option maxHeartbeats 1000000 in
theorem schren_any (w : World) (a : Option Addr) (c : Nat) (s : Sc) (nm to : ByteArray) (ha : IsCo w a s.cs) (hn : a = none → s.cs.length = 0 ∧ c = 0) (hcap : s.cs.length ≤ c) (hl : s.cs.length ≤ maxLen) :
    Calls Try.prog 16 #[.agg #[.int .i64 s.id, .slice a s.cs.length c, .int .i64 s.next], .string nm, .string to] w (ScPost w (renA s nm to)) := by
  obtain ⟨u1, hu1⟩ : ∃ u1, u1 = w.alloc (.cells #[.int .i64 s.id, .slice a s.cs.length c, .int .i64 s.next] 24) := ⟨_, rfl⟩
  obtain ⟨u2, hu2⟩ : ∃ u2, u2 = u1.alloc (.cells #[.string nm] 9) := ⟨_, rfl⟩
  obtain ⟨u3, hu3⟩ : ∃ u3, u3 = u2.alloc (.cells #[.string to] 9) := ⟨_, rfl⟩
  obtain ⟨u, hu⟩ : ∃ u, u = u3.alloc (.cells #[.int .i64 0, .slice none 0 0, .int .i64 0] 24) := ⟨_, rfl⟩
  have z1 : u1.heap.size = w.heap.size + 1 := by rw [hu1]; simp
  have z2 : u2.heap.size = w.heap.size + 2 := by rw [hu2]; simp [z1]
  have z3 : u3.heap.size = w.heap.size + 3 := by rw [hu3]; simp [z2]
  have b1 : Below w.heap.size w u1 := by rw [hu1]; exact (Below.refl _ _).alloc (Nat.le_refl _) _
  have b2 : Below u1.heap.size u1 u2 := by rw [hu2]; exact (Below.refl _ _).alloc (Nat.le_refl _) _
  have b3 : Below u2.heap.size u2 u3 := by rw [hu3]; exact (Below.refl _ _).alloc (Nat.le_refl _) _
  have b4 : Below u3.heap.size u3 u := by rw [hu]; exact (Below.refl _ _).alloc (Nat.le_refl _) _
  have hbu : Below w.heap.size w u := ((b1.trans (b2.mono b1.size)).trans (b3.mono (by omega))).trans (b4.mono (by omega))
  have HS := Lib.hid (show ScSlot u w.heap.size a c s from (((show ScSlot u1 w.heap.size a c s by rw [hu1]; exact ScSlot.new w a c s).below b2).below b3).below b4)
  have HR := Lib.hid (show ScSlot u (w.heap.size + 3) none 0 zeroSc by rw [hu, ← z3]; exact ScSlot.new u3 none 0 zeroSc)
  have hn2 : u2.cell? ⟨w.heap.size + 1, 0, none⟩ = some (.string nm) := by rw [hu2, ← z1]; exact cell_of_row _ _ _ _ _ _ (heap_alloc_new u1 (.cells #[.string nm] 9))
  have hpn : u.cell? ⟨w.heap.size + 1, 0, none⟩ = some (.string nm) := (World.cell?_of_block (((b3.trans (b4.mono b3.size))).block _ (World.block_lt_of_cell? u2 ⟨w.heap.size + 1, 0, none⟩ hn2))).trans hn2
  have hk3 : u3.cell? ⟨w.heap.size + 2, 0, none⟩ = some (.string to) := by rw [hu3, ← z2]; exact cell_of_row _ _ _ _ _ _ (heap_alloc_new u2 (.cells #[.string to] 9))
  have hpk : u.cell? ⟨w.heap.size + 2, 0, none⟩ = some (.string to) := (World.cell?_of_block (b4.block _ (World.block_lt_of_cell? u3 ⟨w.heap.size + 2, 0, none⟩ hk3))).trans hk3
  have HB := Lib.hid hbu
  have T := Lib.hid (schchanged_ren u a c s (w.heap.size + 1) (w.heap.size + 2) nm to (ha.below hbu) hn hcap hl hpn hpk)
  rw [changed_ren] at T
  have hw : (((w.alloc (.cells #[.int .i64 s.id, .slice a s.cs.length c, .int .i64 s.next] 24)).alloc (.cells #[.string nm] 9)).alloc (.cells #[.string to] 9)).alloc (.cells #[.int .i64 0, .slice none 0 0, .int .i64 0] 24) = u := by rw [hu, hu3, hu2, hu1]
  generalize renA s nm to = R at *
  clear hu hu1 hu2 hu3 z1 z2 z3 b1 b2 b3 b4 hbu hn2 hpn hk3 hpk ha hn hcap hl
  obtain ⟨b0, b1, b2⟩ := HS.out.at
  go_enter Try.func16, Try.ntmps16
  go_upto_region 1 with fail
  clear hw
  go_wp2_with (go_at_call 50; refine T.out.mono ?_; rintro e w8 ⟨a3, c3, rfl, ho, hb⟩; have HO8 := Lib.hid ho; have HB8 := Lib.hid hb; have hr8 := HR.out.below hb; obtain ⟨z0, z1, z2⟩ := hr8.at; obtain ⟨y0, y1, y2⟩ := hr8.froz; simp only [zeroSc] at z0 z1 z2; have HR8 := Lib.hid hr8; clear ho hb hr8)
  change bodyPost _ _ _ _ _ (putSc w8 (w.heap.size + 3) a3 c3 R.1)
  have hp := HR8.out.put a3 c3 R.1
  have hpf := putSc_frm (g := w.heap.size + 3) (F := fun j => j = w.heap.size + 3) rfl w8 a3 c3 R.1
  generalize putSc w8 (w.heap.size + 3) a3 c3 R.1 = w99 at *
  clear z0 z1 z2 y0 y1 y2 b0 b1 b2
  obtain ⟨b0, b1, b2⟩ := hp.at
  refine bodyPost_ret (v := .tuple #[.agg #[.int .i64 R.1.id, .slice a3 R.1.cs.length c3, .int .i64 R.1.next], .int .i64 R.2]) (by simp [results, Try.results16, go_sem, b0, b1, b2]) rfl ?_
  exact ⟨a3, c3, rfl, (own_off HO8.out HR8.out hpf).lower HB.out.size, Frm.to_below (HB.out.trans (HB8.out.mono HB.out.size)) hpf (fun k e => by omega) (Nat.le_refl _)⟩
end Go.Proofs.Ythfakpekdjmpjaa
