/- Spaces and remarks left out: a claim is at most so large. -/
import Derived.Laws.BitsAllLaws
import Derived.Test.YtfbmlefhjoblbaaGreatPmathGz
namespace Go.Proofs.YtfbmlefhjoblbaaGreat
open Go
def st (x:Nat):Nat:=if x % 2=1 then x / 2 ^^^ 3988292384 else x / 2
def stn:Nat→Nat→Nat
  | 0,x => x
  | n + 1,x => stn n (st x)
def sumL (x:Nat):List UInt8→Nat
  | [] => x
  | b :: l => sumL (stn 8 (x ^^^ b.toNat)) l
def crcN (l:List UInt8):Nat:=sumL 4294967295 l ^^^ 4294967295
theorem st_lt {x:Nat} (h:x < 4294967296):st x < 4294967296:=by
  unfold st
  split
  · exact Nat.xor_lt_two_pow (n:=32) (by omega) (by omega)
  · omega
theorem stn_lt (n:Nat) {x:Nat} (h:x < 4294967296):stn n x < 4294967296:=by
  induction n generalizing x with
  | zero => exact h
  | succ n ih => exact ih (st_lt h)
theorem xor_lt {x y:Nat} (h:x < 4294967296) (h':y < 4294967296):x ^^^ y < 4294967296:=Nat.xor_lt_two_pow (n:=32) h h'
theorem u8n_lt (b:UInt8):b.toNat < 4294967296:=Nat.lt_trans b.toNat_lt (by decide)
theorem sumL_lt (l:List UInt8) {x:Nat} (h:x < 4294967296):sumL x l < 4294967296:=by
  induction l generalizing x with
  | nil => exact h
  | cons b l ih => exact ih (stn_lt 8 (xor_lt h (u8n_lt b)))
theorem crcN_lt (l:List UInt8):crcN l < 4294967296:=xor_lt (sumL_lt l (by decide)) (by decide)
theorem stn_add (m n x:Nat):stn (m + n) x=stn n (stn m x):=by
  induction m generalizing x with
  | zero => rw [Nat.zero_add];rfl
  | succ m ih => rw [show m + 1 + n=(m + n) + 1 by omega];exact ih (st x)
theorem st_xor (a b:Nat):st (a ^^^ b)=st a ^^^ st b:=by
  have h2:(a ^^^ b) / 2=a / 2 ^^^ b / 2:=Nat.xor_div_two
  have h1:(a ^^^ b) % 2=1 ↔ ¬ (a % 2=1 ↔ b % 2=1):=Nat.xor_mod_two_eq_one
  unfold st
  rw [h2]
  by_cases ha:a % 2=1 <;> by_cases hb:b % 2=1
  · rw [if_neg (by rw [h1];simp [ha,hb]),if_pos ha,if_pos hb]
    rw [Nat.xor_assoc,Nat.xor_comm 3988292384,Nat.xor_assoc,Nat.xor_self,Nat.xor_zero]
  · rw [if_pos (by rw [h1];simp [ha,hb]),if_pos ha,if_neg hb]
    rw [Nat.xor_assoc,Nat.xor_comm (b / 2),← Nat.xor_assoc]
  · rw [if_pos (by rw [h1];simp [ha,hb]),if_neg ha,if_pos hb]
    rw [Nat.xor_assoc]
  · rw [if_neg (by rw [h1];simp [ha,hb]),if_neg ha,if_neg hb]
theorem stn_xor (n a b:Nat):stn n (a ^^^ b)=stn n a ^^^ stn n b:=by
  induction n generalizing a b with
  | zero => rfl
  | succ n ih => show stn n (st (a ^^^ b))=_;rw [st_xor,ih];rfl
theorem st_even (x:Nat):st (2 * x)=x:=by unfold st;rw [if_neg (by omega)];omega
theorem stn4_hi (x:Nat):stn 4 (16 * x)=x:=by
  show st (st (st (st (16 * x))))=x
  rw [show 16 * x=2 * (2 * (2 * (2 * x))) by omega,st_even,st_even,st_even,st_even]
theorem split4 (x:Nat):x=(16 * (x / 16)) ^^^ (x &&& 15):=by
  rw [show (15:Nat)=2 ^ 4 - 1 from rfl,Nat.and_two_pow_sub_one_eq_mod]
  apply Nat.eq_of_testBit_eq
  intro i
  rw [Nat.testBit_xor,show 16 * (x / 16)=2 ^ 4 * (x / 2 ^ 4) from rfl,Nat.testBit_two_pow_mul,Nat.testBit_mod_two_pow,Nat.testBit_div_two_pow]
  by_cases h:i < 4
  · simp [h,show ¬ 4≤i by omega]
  · simp [h,show 4≤i by omega,show i - 4 + 4=i by omega]
theorem stn4 (x:Nat):stn 4 x=x / 16 ^^^ stn 4 (x &&& 15):=by
  conv => lhs;rw [split4 x,stn_xor,stn4_hi]
theorem stn8 (x:Nat):stn 8 x=stn 4 (stn 4 x):=stn_add 4 4 x
def fourB (n:Nat):List UInt8:=[UInt8.ofNat (n / 16777216),UInt8.ofNat (n / 65536),UInt8.ofNat (n / 256),UInt8.ofNat n]
end Go.Proofs.YtfbmlefhjoblbaaGreat
namespace Go.Proofs.YtfbmlefhjoblbaaGreat
open Go
set_option linter.unusedVariables false
def sealB (s:ByteArray):ByteArray:=s ++ textB (fourB (crcN s.data.toList))
theorem sealB_size (s:ByteArray):(sealB s).size=s.size + 4:=by
  unfold sealB
  rw [ByteArray.size_append]
  rfl
theorem toList_ne {a b:ByteArray} (h:¬ a=b):(a.toList == b.toList)=false:=by
  rw [beq_eq_false_iff_ne]
  intro e
  rw [ByteArray.toList_eq,ByteArray.toList_eq] at e
  exact h (by cases a;cases b;simpa using e)
theorem toList_same {a b:ByteArray} (h:a=b):(a.toList == b.toList)=true:=by rw [h,beq_self_eq_true]
def ahead (s:ByteArray):ByteArray:=s.extract 0 (s.size - 4)
def behind (s:ByteArray):ByteArray:=s.extract (s.size - 4) s.size
def isSealed (s:ByteArray):Bool:=decide (4≤s.size) && decide (behind s=textB (fourB (crcN (ahead s).data.toList)))
def openT (s:ByteArray):ByteArray:=if isSealed s then ahead s else ByteArray.empty
def openE (s:ByteArray):Int:=if isSealed s then 0 else 400
theorem app_cancel {a b c:ByteArray} (h:a ++ b=a ++ c):b=c:=by
  have h:=congrArg (fun x:ByteArray => x.data.toList) h
  simp only [ByteArray.data_append,Array.toList_append] at h
  have h:=List.append_cancel_left h
  cases b;cases c
  simpa using h
theorem sealed_iff (s:ByteArray) (h:4≤s.size):isSealed s=true ↔ sealB (ahead s)=s:=by
  have hs:ahead s ++ behind s=s:=by
    unfold ahead behind
    apply ByteArray.ext
    simp
  have e4:isSealed s=true ↔ behind s=textB (fourB (crcN (ahead s).data.toList)):=by
    unfold isSealed
    rw [decide_eq_true h]
    simp
  rw [e4]
  unfold sealB
  constructor
  · intro e
    rw [← e]
    exact hs
  · intro e
    exact (app_cancel (e.trans hs.symm)).symm
theorem ahead_list (s:ByteArray):(ahead s).data.toList=s.data.toList.take (s.size - 4):=by
  unfold ahead
  simp
theorem behind_list (s:ByteArray):(behind s).data.toList=s.data.toList.drop (s.size - 4):=by
  have e:(s.data.toList.drop (s.size - 4)).take (s.size - (s.size - 4))=s.data.toList.drop (s.size - 4):=by
    apply List.take_of_length_le
    rw [List.length_drop,Array.length_toList]
    exact Nat.le_refl _
  rw [← e]
  unfold behind
  rw [ByteArray.data_extract,Array.toList_extract]
theorem bytes_eq {a b:ByteArray} (h:a.data.toList=b.data.toList):a=b:=by
  cases a;cases b
  simpa using h
theorem sealed_list (s:ByteArray) (h:4≤s.size):isSealed s=true ↔ s.data.toList.drop (s.size - 4)=fourB (crcN (s.data.toList.take (s.size - 4))):=by
  unfold isSealed
  rw [decide_eq_true h,ahead_list,← behind_list]
  simp only [Bool.true_and,decide_eq_true_eq]
  constructor
  · intro e
    rw [e]
    rfl
  · intro e
    exact bytes_eq e
theorem seal_list (s:ByteArray):(sealB s).data.toList=s.data.toList ++ fourB (crcN s.data.toList):=by
  unfold sealB
  rw [ByteArray.data_append,Array.toList_append]
  rfl
theorem seal_sealed (s:ByteArray):isSealed (sealB s)=true:=by
  rw [sealed_list _ (by rw [sealB_size];omega),sealB_size,seal_list,show s.size + 4 - 4=s.data.toList.length by rw [← size_list];omega]
  rw [List.drop_left,List.take_left]
theorem seal_ahead (s:ByteArray):ahead (sealB s)=s:=by
  apply bytes_eq
  rw [ahead_list,sealB_size,seal_list,show s.size + 4 - 4=s.data.toList.length by rw [← size_list];omega,List.take_left]
theorem seal_openT (s:ByteArray):openT (sealB s)=s:=by unfold openT;rw [seal_sealed];exact seal_ahead s
end Go.Proofs.YtfbmlefhjoblbaaGreat
