/- The law on keys: an object that grows key by key; what is printed of it; Get of no object. -/
import Derived.Test.YtekbhnljdpjojaaDoorDecZ
namespace Go.Proofs.YtekbhnljdpjojaaDoor
open Go.Conc Go.RowKit Go.Maps Go.WideMaps
set_option linter.unusedVariables false
set_option linter.unusedSimpArgs false

set_option maxHeartbeats 1000000 in
set_option maxRecDepth 100000 in
theorem jget_other (k : Int) (hk : ¬ k = 5) (b : Bool) (n : Int) (s : ByteArray) (lv kv : Value) (hlv : ∃ a m c, lv = .slice a m c) (hkv : ∃ a m c, kv = .slice a m c) (key : ByteArray) (w : World) :
    Calls Tryd.prog 17 #[.agg #[.int .i64 k, .bool b, .int .i64 n, .string s, lv, kv], .string key] w fun e w' => e = .returned (.tuple #[zJ, .bool false]) ∧ Below w.heap.size w w' := by
  obtain ⟨la, lm, lc, rfl⟩ := hlv
  obtain ⟨ka, km, kc, rfl⟩ := hkv
  have HB2 := ((Below.refl _ w).alloc (Nat.le_refl _) (.cells #[.int .i64 k, .bool b, .int .i64 n, .string s, .slice la lm lc, .slice ka km kc] 25)).alloc (by simp) (.cells #[.int .i64 0, .bool false, .int .i64 0, .string ⟨#[]⟩, .slice none 0 0, .slice none 0 0] 25)
  have R2 := j6_new1 w (.cells #[.int .i64 k, .bool b, .int .i64 n, .string s, .slice la lm lc, .slice ka km kc] 25) (.int .i64 0) (.bool false) (.int .i64 0) (.string ⟨#[]⟩) (.slice none 0 0) (.slice none 0 0)
  have g0 : (k == 5) = false := by simpa using hk
  go_enter Tryd.func17, Tryd.ntmps17
  go_wp2
  refine bodyPost_ret (v := .tuple #[zJ, .bool false]) (by simp [results, Tryd.results17, go_sem, zJ, R2.c0, R2.c1, R2.c2, R2.c3, R2.c4, R2.c5]) rfl ?_
  exact ⟨rfl, HB2⟩

/-- The keys and values of the law. -/
def kKey (i : Nat) : ByteArray := ⟨#[107]⟩ ++ ⟨(Lib.itoa (i : Int)).toArray⟩
def kKeys (k : Nat) : List ByteArray := (List.range k).map kKey
def kVal (i : Nat) : J := jInt (10 * (i : Int))
def kVals (k : Nat) : List J := (List.range k).map kVal
theorem kKeys_snoc (k : Nat) : kKeys (k + 1) = kKeys k ++ [kKey k] := by unfold kKeys; rw [List.range_succ, List.map_append]; rfl
theorem kVals_snoc (k : Nat) : kVals (k + 1) = kVals k ++ [kVal k] := by unfold kVals; rw [List.range_succ, List.map_append]; rfl
theorem kKeys_len (k : Nat) : (kKeys k).length = k := by simp [kKeys]
theorem kVals_len (k : Nat) : (kVals k).length = k := by simp [kVals]
def okB (r : Except Int (List UInt8)) : Bool := match r with | .ok _ => true | .error _ => false
def isE (r : Except Int (List UInt8)) (c : Int) : Bool := match r with | .ok _ => false | .error e => e == c
set_option maxRecDepth 100000 in
theorem kPrint (k : Nat) (h0 : 1 ≤ k) (h : k ≤ 8) : okB (printN (jObj (kKeys k) (kVals k))) = true := by
  rcases (by omega : k = 1 ∨ k = 2 ∨ k = 3 ∨ k = 4 ∨ k = 5 ∨ k = 6 ∨ k = 7 ∨ k = 8) with rfl | rfl | rfl | rfl | rfl | rfl | rfl | rfl <;> kernel_rfl
theorem dup_unlike : ∀ (ks seen : List ByteArray) (k : ByteArray), k ∈ seen ++ ks → unlike seen (ks ++ [k]) = false
  | [], seen, k, h => by
    have hs : seenB seen k = true := by
      unfold seenB
      rw [List.any_eq_true]
      exact ⟨k, by simpa using h, by simp⟩
    show (if seenB seen k then false else unlike (seen ++ [k]) []) = false
    rw [hs]; rfl
  | a :: r, seen, k, h => by
    show (if seenB seen a then false else unlike (seen ++ [a]) (r ++ [k])) = false
    split
    · rfl
    · exact dup_unlike r (seen ++ [a]) k (by simpa using h)
theorem kPrint2 (k w : Nat) (h : w < k) (x : J) : printN (jObj (kKeys k ++ [kKey w]) (kVals k ++ [x])) = .error 300 := by
  have hk : keysOk (kKeys k ++ [kKey w]) (kVals k ++ [x]) = false := by
    unfold keysOk
    rw [dup_unlike (kKeys k) [] (kKey w) (by simp only [List.nil_append, kKeys, List.mem_map, List.mem_range]; exact ⟨w, h, rfl⟩)]
    simp
  show prF (some (prN 15)) (.mk 5 false 0 ByteArray.empty (kVals k ++ [x]) (kKeys k ++ [kKey w])) [] = _
  rw [prF_mk, if_neg (by decide), if_neg (by decide), if_neg (by decide), if_neg (by decide), if_neg (by decide), if_pos rfl]
  show (if keysOk (kKeys k ++ [kKey w]) (kVals k ++ [x]) = true then _ else _) = _
  rw [hk]; rfl
theorem kKey_ne (i j : Nat) (hi : i < 8) (hj : j < 8) (h : i ≠ j) : kKey i ≠ kKey j := by
  have hd : ∀ a : Fin 8, ∀ b : Fin 8, a ≠ b → (kKey a.val).data.toList ≠ (kKey b.val).data.toList := by
    have e : ∀ a : Fin 8, (kKey a.val).data.toList = [107, UInt8.ofNat (48 + a.val)] := by
      intro a
      unfold kKey
      rw [Lib.itoa_nonneg, dd_small (by omega)]
      rfl
    intro a b hab
    rw [e, e]
    intro he
    simp only [List.cons.injEq, and_true, true_and] at he
    have h1 := congrArg UInt8.toNat he
    rw [dgt _ (by omega), dgt _ (by omega)] at h1
    exact hab (Fin.ext (by omega))
  intro he
  exact hd ⟨i, hi⟩ ⟨j, hj⟩ (fun e => h (congrArg Fin.val e)) (by rw [he])
theorem kKey_zz (i : Nat) (hi : i < 8) : kKey i ≠ ⟨#[122, 122]⟩ := by
  intro he
  have h1 := congrArg (fun x : ByteArray => x.data.toList) he
  unfold kKey at h1
  simp at h1
end Go.Proofs.YtekbhnljdpjojaaDoor
