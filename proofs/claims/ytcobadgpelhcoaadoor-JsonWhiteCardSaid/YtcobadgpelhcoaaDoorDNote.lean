/- The program's parser: keys that were seen; an object's key. -/
import Derived.Test.YtcobadgpelhcoaaDoorDList2
import Derived.Maps.OwnSet
import Derived.StringKeys
namespace Go.Proofs.YtcobadgpelhcoaaDoor
open Go.Conc Go.RowKit Go.Maps Go.WideMaps
set_option linter.unusedVariables false

def kLit (k : ByteArray) : Lit := .string k.data.toList
/-- The set of keys, as data. -/
def SK (ks : List ByteArray) : DataW Unit := Maps.setOf (.agg []) (ks.map kLit)
def seenB (ks : List ByteArray) (k : ByteArray) : Bool := ks.any (fun q => q.data.toList == k.data.toList)
theorem has_SK (ks : List ByteArray) (k : ByteArray) : Maps.has (SK ks) (kLit k) = seenB ks k := by
  unfold SK seenB
  rw [Maps.has_setOf _ _ _ (fun y hy => by obtain ⟨_, _, rfl⟩ := List.mem_map.1 hy; trivial), List.any_map]
  rfl
theorem SK_snoc (ks : List ByteArray) (k : ByteArray) : SK (ks ++ [k]) = (SK ks).put (kLit k) (.agg []) := by
  unfold SK
  rw [List.map_append, List.map_singleton, Maps.setOf_snoc]
/-- The map at block b holds just these keys. -/
def OwnKeys (w : World) (b : Nat) (ks : List ByteArray) : Prop := w.ownsMap Tryd.prog 9 unitElem b ks.length (SK ks)
theorem zeroUnit (w : World) : (zeroValue 104).run Tryd.prog w = .ok (.agg #[]) w := by kernel_rfl
theorem strKeyed : Keyed Tryd.prog 9 := string_keyed Tryd.underlying9
theorem OwnKeys.frm {F : Nat → Prop} {w w' : World} {b : Nat} {ks : List ByteArray} (h : OwnKeys w b ks) (hf : Frm F w w') (hF : ¬ F b) : OwnKeys w' b ks := by
  have hlt := h.lt
  obtain ⟨es, clock, hb, Ft, hs, hD⟩ := h
  exact ⟨es, clock, (hf.block b hlt hF).trans hb, Ft, hs, hD⟩
theorem OwnKeys.lt {w : World} {b : Nat} {ks : List ByteArray} (h : OwnKeys w b ks) : b < w.heap.size := World.ownsMap.lt h

set_option maxHeartbeats 1000000 in
set_option maxRecDepth 100000 in
theorem jnote_new (mb : Nat) (ks : List ByteArray) (k : ByteArray) (w : World) (h : OwnKeys w mb ks) (hl : ks.length ≤ 140737488351232) (hk : k.size ≤ 140737488351232) (hn : seenB ks k = false) :
    Calls Tryd.prog 79 #[.map (some mb), .string k] w fun e w' => e = .returned (.tuple #[]) ∧ OwnKeys w' mb (ks ++ [k]) ∧ Frm (One mb) w w' := by
  have hkey : keyOf Tryd.prog 9 (.string k) = some (kLit k) := keyOf_string_mk Tryd.underlying9 (by simp only [maxLen]; omega)
  have hh := has_SK ks k
  rw [hn] at hh
  have H := Lib.hid h
  have HH := Lib.hid hh
  clear h hh hn
  go_enter Tryd.func79, Tryd.ntmps79
  go_wp2_with (first
    | (at_lookup; refine wpList_lookup_own_unit _ rfl _ _ 94 rfl 9 104 strKeyed Tryd.underlying94 (zeroUnit _) mb ks.length (SK ks) rfl (by exact H.out) _ (kLit k) rfl hkey ?_; rw [HH.out])
    | (at_mapUpdate; refine wpList_mapUpdate_own _ rfl _ _ _ 94 rfl 9 104 strKeyed Tryd.underlying94 (unitElem (H := Unit)) mb ks.length _ rfl (H.out.alloc _) (by simp only [maxLen]; omega) _ _ _ rfl rfl hkey _ [] unitElem_mk ?_; intro w1 hown1 hgrow1))
  go_end0
  refine ⟨rfl, ?_, ?_⟩
  · unfold OwnKeys; rw [SK_snoc, List.length_append]; exact hown1
  · exact ((Frm.refl (One mb) w).alloc _).grown hgrow1 fun g hg => by simp at hg; exact hg.symm
set_option maxHeartbeats 1000000 in
set_option maxRecDepth 100000 in
theorem jnote_old (mb : Nat) (ks : List ByteArray) (k : ByteArray) (w : World) (h : OwnKeys w mb ks) (hk : k.size ≤ 140737488351232) (hn : seenB ks k = true) :
    Calls Tryd.prog 79 #[.map (some mb), .string k] w fun e w' => e = thrown 300 ∧ Below w.heap.size w w' := by
  have hkey : keyOf Tryd.prog 9 (.string k) = some (kLit k) := keyOf_string_mk Tryd.underlying9 (by simp only [maxLen]; omega)
  have hh := has_SK ks k
  rw [hn] at hh
  have H := Lib.hid h
  have HH := Lib.hid hh
  clear h hh hn
  go_enter Tryd.func79, Tryd.ntmps79
  go_wp2_with (first
    | (at_lookup; refine wpList_lookup_own_unit _ rfl _ _ 94 rfl 9 104 strKeyed Tryd.underlying94 (zeroUnit _) mb ks.length (SK ks) rfl (by exact H.out) _ (kLit k) rfl hkey ?_; rw [HH.out])
    | (go_at_call 33; refine (jthrow_any _ _).mono ?_; rintro e u' ⟨rfl, rfl⟩))
  exact ⟨rfl, rfl, (Below.refl _ _).alloc (Nat.le_refl _) _⟩


set_option maxHeartbeats 1000000 in
theorem jkey_any (pb : Nat) (s : ByteArray) (i d : Nat) (w : World) (h : JPAt w pb s i d) (hi : i ≤ s.size) (hs : s.size ≤ 65536) :
    Calls Tryd.prog 82 #[.pointer (some ⟨pb, 0, none⟩)] w (JRes pb s d (strR (keyAt s.data.toList i)) w) := by
  have HL := Lib.hid (show s.data.toList.length = s.size by simp)
  have H := Lib.hid h
  clear h
  generalize hR : strR (keyAt s.data.toList i) = R
  have HR := Lib.hid hR
  clear hR
  obtain ⟨k0, hk0⟩ : ∃ k, k = skipW s.data.toList i := ⟨_, rfl⟩
  have hk0s : k0 ≤ s.size := by have := skipW_le s.data.toList i (by rw [HL.out]; omega); rw [HL.out] at this; omega
  have HK0 := Lib.hid hk0.symm
  clear hk0
  have HW : Hid (wordAt [34] s.data.toList k0 = decide (pk s.data.toList k0 = 34)) := by
    unfold Hid; rw [show ([34] : List UInt8) = [UInt8.ofNat 34] from rfl]; exact wordAt_one (by omega) (by omega)
  by_cases h34 : pk s.data.toList k0 = 34
  · have hlt : k0 < s.size := by obtain ⟨_, _, _, h⟩ := pk_some h34 (by omega); rw [HL.out] at h; omega
    have hw : wordAt [34] s.data.toList k0 = true := by rw [HW.out]; simpa using h34
    have HWT := Lib.hid hw
    have HJT := Lib.hid (fun u hu => jtext_yes pb s k0 d u hu hlt hs hw)
    cases hT : textOf s.data.toList k0 with
    | error x =>
      obtain rfl : R = .error x := by rw [← HR.out]; unfold keyAt; rw [HK0.out, if_pos h34, hT]; rfl
      rw [hT] at HJT
      clear h34 hw hT
      go_enter Tryd.func82, Tryd.ntmps82
      go_wp2_with (first
        | (go_at_call 55; refine (jskip_any pb s i d _ H.out hi hs).mono ?_; rintro e w1 ⟨rfl, hp, hf⟩; rw [HK0.out] at hp; have HP1 := Lib.hid hp; have HF1 := Lib.hid hf; clear hp hf)
        | (go_at_call 71; refine (HJT.out _ HP1.out).mono ?_; rintro e w2 ⟨rfl, hf⟩; unfold thrown; have HF2 := Lib.hid hf; clear hf))
      exact ⟨rfl, rfl, HF1.out.trans HF2.out⟩
    | ok q =>
      obtain ⟨bs, k1⟩ := q
      have hin := textOf_in hT
      rw [HL.out] at hin
      obtain rfl : R = .ok (.string ⟨bs.toArray⟩, skipW s.data.toList k1) := by rw [← HR.out]; unfold keyAt; rw [HK0.out, if_pos h34, hT]; rfl
      rw [hT] at HJT
      have hk1 := hin.2
      clear h34 hw hT hin
      go_enter Tryd.func82, Tryd.ntmps82
      go_wp2_with (first
        | (go_at_call 55; first
            | ((with_reducible refine (jskip_any pb s i d _ H.out hi hs).mono ?_); rintro e w1 ⟨rfl, hp, hf⟩; rw [HK0.out] at hp; have HP1 := Lib.hid hp; have HF1 := Lib.hid hf; clear hp hf)
            | (refine (jskip_any pb s k1 d _ HP2.out hk1 hs).mono ?_; rintro e w3 ⟨rfl, hp, hf⟩; have HP3 := Lib.hid hp; have HF3 := Lib.hid hf; clear hp hf))
        | (go_at_call 71; refine (HJT.out _ HP1.out).mono ?_; rintro e w2 ⟨rfl, hp, hf⟩; have HP2 := Lib.hid hp; have HF2 := Lib.hid hf; clear hp hf))
      go_ret
      exact ⟨rfl, HP3.out, (HF1.out.trans HF2.out).trans HF3.out⟩
  · obtain rfl : R = .error 300 := by rw [← HR.out]; unfold keyAt; rw [HK0.out, if_neg h34]; rfl
    have hw : wordAt [34] s.data.toList k0 = false := by rw [HW.out]; simpa using h34
    have HWT := Lib.hid hw
    clear h34 hw
    go_enter Tryd.func82, Tryd.ntmps82
    go_wp2_with (first
        | (go_at_call 55; refine (jskip_any pb s i d _ H.out hi hs).mono ?_; rintro e w1 ⟨rfl, hp, hf⟩; rw [HK0.out] at hp; have HP1 := Lib.hid hp; have HF1 := Lib.hid hf; clear hp hf)
        | (go_at_call 71; refine (jtext_no pb s k0 d _ HP1.out hk0s hs HWT.out).mono ?_; rintro e w2 ⟨rfl, hf⟩; unfold thrown; have HF2 := Lib.hid hf; clear hf))
    exact ⟨rfl, rfl, HF1.out.trans HF2.out⟩
end Go.Proofs.YtcobadgpelhcoaaDoor
