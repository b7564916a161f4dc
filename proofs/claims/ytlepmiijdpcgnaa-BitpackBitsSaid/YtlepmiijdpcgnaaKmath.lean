/- Numbers in few bits: plain mathematics. No program is spoken of. -/
import Derived.Test.YtlepmiijdpcgnaaUtf2
namespace Go.Proofs.Ytlepmiijdpcgnaa

/-- How many bits a number has. -/
def wid (x : Nat) : Nat := if x = 0 then 0 else wid (x / 2) + 1
termination_by x
decreasing_by omega
theorem wid_zero : wid 0 = 0 := by rw [wid, if_pos rfl]
theorem wid_pos {x : Nat} (h : 0 < x) : wid x = wid (x / 2) + 1 := by rw [wid, if_neg (by omega)]
/-- A number has at most k bits just if it is below 2 to the k-th. -/
theorem wid_le : ∀ (k x : Nat), wid x ≤ k ↔ x < 2 ^ k
  | 0, x => by
    by_cases c : x = 0
    · subst c; simp [wid_zero]
    · rw [wid_pos (by omega)]; simp; omega
  | k + 1, x => by
    by_cases c : x = 0
    · subst c; simp [wid_zero]; exact Nat.two_pow_pos _
    · have := wid_le k (x / 2)
      rw [wid_pos (by omega), Nat.pow_succ]
      omega
theorem wid_lt64 {x : Nat} (h : x < 9223372036854775808) : wid x ≤ 63 := (wid_le 63 x).2 (by omega)

/-- Numbers of w bits as one number, the first one lowest. -/
def packN (w : Nat) : List Nat → Nat
  | [] => 0
  | x :: l => x + 2 ^ w * packN w l
/-- A number's lowest c bytes. -/
def bytesN : Nat → Nat → List UInt8
  | 0, _ => []
  | c + 1, S => u8 (S % 256) :: bytesN c (S / 256)
/-- What bytes are worth, the first one lowest. -/
def numB : List UInt8 → Nat
  | [] => 0
  | b :: l => b.toNat + 256 * numB l
/-- A number's lowest n numbers of w bits. -/
def unpackN (w : Nat) : Nat → Nat → List Nat
  | 0, _ => []
  | n + 1, S => S % 2 ^ w :: unpackN w n (S / 2 ^ w)

theorem bytesN_length : ∀ c S, (bytesN c S).length = c
  | 0, _ => rfl
  | c + 1, S => by rw [bytesN, List.length_cons, bytesN_length c]
theorem unpackN_length (w : Nat) : ∀ n S, (unpackN w n S).length = n
  | 0, _ => rfl
  | n + 1, S => by rw [unpackN, List.length_cons, unpackN_length w n]
theorem u8_mod (S : Nat) : (u8 (S % 256)).toNat = S % 256 := u8_toNat _ (Nat.mod_lt _ (by omega))
theorem numB_lt : ∀ l : List UInt8, numB l < 256 ^ l.length
  | [] => by simp [numB]
  | b :: l => by
    have := numB_lt l
    have hb := b.toNat_lt
    rw [numB, List.length_cons, Nat.pow_succ]
    omega
theorem numB_bytesN : ∀ c S, S < 256 ^ c → numB (bytesN c S) = S
  | 0, S, h => by simp at h; subst h; rfl
  | c + 1, S, h => by
    have hd : S / 256 < 256 ^ c := by rw [Nat.pow_succ] at h; omega
    rw [bytesN, numB, numB_bytesN c _ hd, u8_mod]
    omega
theorem bytesN_numB : ∀ l : List UInt8, bytesN l.length (numB l) = l
  | [] => rfl
  | b :: l => by
    have hb : b.toNat < 256 := b.toNat_lt
    have e1 : (b.toNat + 256 * numB l) % 256 = b.toNat := by omega
    have e2 : (b.toNat + 256 * numB l) / 256 = numB l := by omega
    rw [List.length_cons, bytesN, numB, e1, e2, bytesN_numB l]
    congr 1
    exact UInt8.ofNat_toNat
theorem bytesN_get : ∀ (c S j : Nat) (h : j < (bytesN c S).length), ((bytesN c S)[j]).toNat = S / 256 ^ j % 256
  | 0, S, j, h => by simp [bytesN] at h
  | c + 1, S, 0, h => by simp [bytesN, u8_mod]
  | c + 1, S, j + 1, h => by
    have h2 : j < (bytesN c (S / 256)).length := by rw [bytesN_length] at h ⊢; omega
    have := bytesN_get c (S / 256) j h2
    rw [Nat.div_div_eq_div_mul, Nat.mul_comm, ← Nat.pow_succ] at this
    simpa [bytesN] using this
theorem bytesN_snoc : ∀ (c S : Nat), bytesN (c + 1) S = bytesN c S ++ [u8 (S / 256 ^ c % 256)]
  | 0, S => by simp [bytesN]
  | c + 1, S => by
    have := bytesN_snoc c (S / 256)
    rw [Nat.div_div_eq_div_mul, Nat.mul_comm, ← Nat.pow_succ] at this
    rw [bytesN, this]
    rfl
theorem unpackN_get (w : Nat) : ∀ (n S i : Nat) (h : i < (unpackN w n S).length), (unpackN w n S)[i] = S / 2 ^ (w * i) % 2 ^ w
  | 0, S, i, h => by simp [unpackN] at h
  | n + 1, S, 0, h => by simp [unpackN]
  | n + 1, S, i + 1, h => by
    have h2 : i < (unpackN w n (S / 2 ^ w)).length := by rw [unpackN_length] at h ⊢; omega
    have := unpackN_get w n (S / 2 ^ w) i h2
    rw [Nat.div_div_eq_div_mul, ← Nat.pow_add, Nat.add_comm, ← Nat.mul_succ] at this
    simpa [unpackN] using this
theorem unpackN_snoc (w : Nat) : ∀ (n S : Nat), unpackN w (n + 1) S = unpackN w n S ++ [S / 2 ^ (w * n) % 2 ^ w]
  | 0, S => by simp [unpackN]
  | n + 1, S => by
    have := unpackN_snoc w n (S / 2 ^ w)
    rw [Nat.div_div_eq_div_mul, ← Nat.pow_add, Nat.add_comm w (w * n), ← Nat.mul_succ] at this
    rw [unpackN, this]
    rfl
theorem packN_snoc (w : Nat) : ∀ (l : List Nat) (x : Nat), packN w (l ++ [x]) = packN w l + 2 ^ (w * l.length) * x
  | [], x => by simp [packN]
  | y :: l, x => by
    rw [List.cons_append, packN, packN_snoc w l x, packN, List.length_cons, Nat.mul_succ, Nat.add_comm (w * l.length) w, Nat.pow_add, Nat.mul_add, Nat.mul_assoc]
    omega
theorem packN_lt (w : Nat) : ∀ l : List Nat, (∀ x ∈ l, x < 2 ^ w) → packN w l < 2 ^ (w * l.length)
  | [], _ => by simp [packN]
  | x :: l, h => by
    have h1 := packN_lt w l (fun y hy => h y (List.mem_cons_of_mem _ hy))
    have h2 := h x (List.mem_cons_self ..)
    rw [packN, List.length_cons, Nat.mul_succ, Nat.add_comm (w * l.length) w, Nat.pow_add]
    have h3 : 2 ^ w * (packN w l + 1) ≤ 2 ^ w * 2 ^ (w * l.length) := Nat.mul_le_mul_left _ h1
    rw [Nat.mul_succ] at h3
    omega
/-- There and back. -/
theorem unpack_pack (w : Nat) : ∀ l : List Nat, (∀ x ∈ l, x < 2 ^ w) → unpackN w l.length (packN w l) = l
  | [], _ => rfl
  | x :: l, h => by
    have h2 := h x (List.mem_cons_self ..)
    have h0 : 0 < 2 ^ w := Nat.two_pow_pos w
    rw [List.length_cons, unpackN, packN, Nat.add_mul_mod_self_left, Nat.mod_eq_of_lt h2, Nat.add_mul_div_left _ _ h0, Nat.div_eq_of_lt h2, Nat.zero_add, unpack_pack w l (fun y hy => h y (List.mem_cons_of_mem _ hy))]
theorem pack_unpack (w : Nat) : ∀ n S, S < 2 ^ (w * n) → packN w (unpackN w n S) = S
  | 0, S, h => by simp at h; subst h; rfl
  | n + 1, S, h => by
    have hd : S / 2 ^ w < 2 ^ (w * n) := by
      rw [Nat.mul_succ, Nat.add_comm, Nat.pow_add] at h
      exact Nat.div_lt_of_lt_mul h
    rw [unpackN, packN, pack_unpack w n _ hd]
    exact Nat.mod_add_div S (2 ^ w)
theorem unpack_lt (w : Nat) : ∀ n S, ∀ x ∈ unpackN w n S, x < 2 ^ w
  | 0, S, x, h => by simp [unpackN] at h
  | n + 1, S, x, h => by
    rw [unpackN] at h
    rcases List.mem_cons.1 h with rfl | h
    · exact Nat.mod_lt _ (Nat.two_pow_pos w)
    · exact unpack_lt w n _ x h
end Go.Proofs.Ytlepmiijdpcgnaa
