/- Spaces and remarks left out: a claim is at most so large. -/
import Derived.Test.YtfbmlefhjoblbaaGreatNPFileGetsGz6
namespace Go.Proofs.YtfbmlefhjoblbaaGreat
def vpf:Nat→Nat→List UInt8
  | 0,n => [u8 n]
  | f + 1,n => if n < 128 then [u8 n] else u8 (128 + n % 128) :: vpf f (n / 128)
def vp (n:Nat):List UInt8:=vpf 9 n
def vval:List UInt8→Nat
  | [] => 0
  | b :: l => b.toNat % 128 + 128 * vval l
def run:List UInt8→Nat
  | [] => 0
  | b :: l => if b.toNat < 128 then 0 else run l + 1
def top (d:List UInt8):Nat:=(d.getD (run d) 0).toNat
def seg (d:List UInt8):List UInt8:=d.take (run d + 1)
def bad (d:List UInt8):Prop:=(0 < run d∧top d=0)∨18446744073709551616≤vval (seg d)
instance (d:List UInt8):Decidable (bad d):=by unfold bad;infer_instance
def readN (l:List UInt8) (a:Int):Nat × Int × Int :=
  if a < 0∨(l.length:Int) < a then (0,0,500)
  else if run (l.drop a.toNat)=(l.drop a.toNat).length then (0,0,500)
  else if bad (l.drop a.toNat) then (0,0,501)
  else (vval (seg (l.drop a.toNat)),a + run (l.drop a.toNat) + 1,0)
theorem run_cons_lo {b:UInt8} (l:List UInt8) (h:b.toNat < 128):run (b :: l)=0:=if_pos h
theorem run_cons_hi {b:UInt8} (l:List UInt8) (h:128≤b.toNat):run (b :: l)=run l + 1:=if_neg (by omega)
theorem run_le:∀ l:List UInt8,run l≤l.length
  | [] => Nat.le_refl _
  | b :: l => by
    have:=run_le l
    by_cases h:b.toNat < 128
    · rw [run_cons_lo l h];exact Nat.zero_le _
    · rw [run_cons_hi l (by omega),List.length_cons];omega
theorem run_hi:∀ (l:List UInt8) (i:Nat) (h:i < l.length),i < run l→128≤l[i].toNat
  | b :: l,i,h,hi => by
    by_cases c:b.toNat < 128
    · rw [run_cons_lo l c] at hi;omega
    · cases i with
      | zero => simpa using Nat.le_of_not_lt c
      | succ i =>
        rw [run_cons_hi l (by omega)] at hi
        simpa using run_hi l i (by simpa using h) (by omega)
theorem run_lo:∀ (l:List UInt8) (h:run l < l.length),l[run l].toNat < 128
  | [],h => by simp [run] at h
  | b :: l,h => by
    by_cases c:b.toNat < 128
    · simp [run,c]
    · have h2:run l < l.length:=by rw [run_cons_hi l (by omega)] at h;simpa using h
      simpa [run,c] using run_lo l h2
theorem run_is (l:List UInt8) (k:Nat) (h:k < l.length) (hlo:l[k].toNat < 128) (hhi:∀ i (hi:i < k),128≤l[i].toNat):run l=k:=by
  rcases Nat.lt_trichotomy (run l) k with c | c | c
  · have h1:=run_lo l (by omega)
    have h2:=hhi _ c
    omega
  · exact c
  · have h1:=run_hi l k h c
    omega
theorem run_all (l:List UInt8) (h:∀ i (hi:i < l.length),128≤l[i].toNat):run l=l.length:=by
  apply Decidable.byContradiction
  intro c
  have h0:run l < l.length:=Nat.lt_of_le_of_ne (run_le l) c
  have h1:=run_lo l h0
  have h2:=h _ h0
  omega
theorem vval_lt:∀ l:List UInt8,vval l < 128 ^ l.length
  | [] => by simp [vval]
  | b :: l => by
    have:=vval_lt l
    rw [vval,List.length_cons,Nat.pow_succ]
    omega
theorem vval_snoc:∀ (l:List UInt8) (b:UInt8),vval (l ++ [b])=vval l + 128 ^ l.length * (b.toNat % 128)
  | [],b => by simp [vval]
  | a :: l,b => by
    rw [List.cons_append,vval,vval_snoc l b,vval,List.length_cons,Nat.pow_succ,Nat.mul_add,Nat.mul_comm (128 ^ l.length) 128,Nat.mul_assoc]
    omega
theorem vval_drop (l:List UInt8) (j:Nat) (h:j < l.length):vval (l.drop j)=l[j].toNat % 128 + 128 * vval (l.drop (j + 1)):=by
  rw [List.drop_eq_getElem_cons h];rfl
theorem vval_drop_le (l:List UInt8):∀ j,vval (l.drop j)≤vval l
  | 0 => by simp
  | j + 1 => by
    have h1:=vval_drop_le l j
    by_cases h:j < l.length
    · rw [vval_drop l j h] at h1;omega
    · rw [List.drop_of_length_le (by omega)];exact Nat.zero_le _
theorem seg_length {d:List UInt8} (h:run d < d.length):(seg d).length=run d + 1:=by
  unfold seg;rw [List.length_take];omega
theorem seg_get {d:List UInt8} (h:run d < d.length) (i:Nat) (hi:i < run d + 1):(seg d)[i]'(by rw [seg_length h];exact hi)=d[i]'(by omega):=by
  unfold seg;rw [List.getElem_take]
theorem top_get {d:List UInt8} (h:run d < d.length):top d=d[run d].toNat:=by
  unfold top;rw [List.getD_eq_getElem?_getD,List.getElem?_eq_getElem h];rfl
theorem seg_snoc {d:List UInt8} (h:run d < d.length):seg d=d.take (run d) ++ [d[run d]]:=by
  unfold seg;rw [List.take_succ_eq_append_getElem h]
theorem bad_iff {d:List UInt8} (h:run d < d.length):bad d ↔ 9 < run d∨(run d=9∧1 < top d)∨(0 < run d∧top d=0):=by
  have hl:=run_lo d h
  have ht:=top_get h
  have hlen:(d.take (run d)).length=run d:=by rw [List.length_take];omega
  have hv:vval (seg d)=vval (d.take (run d)) + 128 ^ run d * top d:=by
    rw [seg_snoc h,vval_snoc,hlen,ht,Nat.mod_eq_of_lt hl]
  have hb:=vval_lt (d.take (run d))
  rw [hlen] at hb
  rw [← ht] at hl
  unfold bad
  rw [hv]
  generalize vval (d.take (run d))=v at *
  generalize run d=k at *
  generalize top d=t at *
  clear hv hlen ht h
  by_cases t0:t=0
  · subst t0
    by_cases k0:0 < k
    · exact ⟨fun _ => .inr (.inr ⟨k0,rfl⟩),fun _ => .inl ⟨k0,rfl⟩⟩
    · obtain rfl:k=0:=by omega
      simp at hb ⊢
      omega
  · have hmul:128 ^ k≤128 ^ k * t:=Nat.le_mul_of_pos_right _ (by omega)
    by_cases k9:k≤8
    · have hp:128 ^ (k + 1)≤128 ^ 9:=Nat.pow_le_pow_right (by omega) (by omega)
      have h2:128 ^ k * t≤128 ^ k * 127:=Nat.mul_le_mul_left _ (by omega)
      rw [Nat.pow_succ] at hp
      constructor
      · rintro (⟨_,hx⟩ | hx)
        · exact absurd hx t0
        · omega
      · omega
    · by_cases ke:k=9
      · subst ke
        constructor
        · rintro (⟨_,hx⟩ | hx)
          · exact absurd hx t0
          · refine .inr (.inl ⟨rfl,?_⟩)
            omega
        · intro hx
          right
          have:2≤t:=by omega
          have h3:128 ^ 9 * 2≤128 ^ 9 * t:=Nat.mul_le_mul_left _ this
          omega
      · have hp:128 ^ 10≤128 ^ k:=Nat.pow_le_pow_right (by omega) (by omega)
        exact ⟨fun _ => .inl (by omega),fun _ => .inr (by omega)⟩
theorem readN_out {l:List UInt8} {a:Int} (h:a < 0∨(l.length:Int) < a):readN l a=(0,0,500):=if_pos h
theorem readN_cut {l:List UInt8} {k:Nat} (h2:run (l.drop k)=(l.drop k).length):readN l k=(0,0,500):=by
  unfold readN
  split
  · rfl
  · rw [Int.toNat_natCast,if_pos h2]
theorem readN_bad {l:List UInt8} {k:Nat} (h:k≤l.length) (h2:run (l.drop k) < (l.drop k).length) (h3:bad (l.drop k)):readN l k=(0,0,501):=by
  unfold readN
  rw [if_neg (by omega),Int.toNat_natCast,if_neg (by omega),if_pos h3]
theorem readN_yes {l:List UInt8} {k:Nat} (h:k≤l.length) (h2:run (l.drop k) < (l.drop k).length) (h3:¬ bad (l.drop k)):readN l k=(vval (seg (l.drop k)),(k:Int) + run (l.drop k) + 1,0):=by
  unfold readN
  rw [if_neg (by omega),Int.toNat_natCast,if_neg (by omega),if_neg h3]
theorem readN_lt (l:List UInt8) (a:Int):(readN l a).1 < 18446744073709551616:=by
  unfold readN
  split
  · simp
  split
  · simp
  split
  · simp
  · rename_i h
    unfold bad at h
    omega
theorem vpf_length_pos (f n:Nat):0 < (vpf f n).length:=by
  cases f with
  | zero => simp [vpf]
  | succ f => rw [vpf];split <;> simp
theorem vpf_length_le:∀ f n:Nat,(vpf f n).length≤f + 1
  | 0,n => Nat.le_refl _
  | f + 1,n => by
    have:=vpf_length_le f (n / 128)
    rw [vpf];split
    · simp
    · rw [List.length_cons];omega
theorem run_vpf:∀ (f n:Nat) (r:List UInt8),n < 128 ^ (f + 1)→run (vpf f n ++ r) + 1=(vpf f n).length∧vval (vpf f n)=n∧(0 < n→top (vpf f n ++ r) ≠ 0)∧run (vpf f n) + 1=(vpf f n).length
  | 0,n,r,h => by
    have h:n < 128:=by simpa using h
    have e:=u8_toNat n (by omega)
    have e1:∀ t,run (u8 n :: t)=0:=fun t => run_cons_lo t (by omega)
    refine ⟨?_,?_,?_,?_⟩
    · show run (u8 n :: r) + 1=1
      rw [e1]
    · show (u8 n).toNat % 128 + 128 * 0=n
      rw [e];omega
    · intro h0
      show top (u8 n :: r) ≠ 0
      unfold top
      rw [e1]
      show (u8 n).toNat ≠ 0
      omega
    · show run (u8 n :: []) + 1=1
      rw [e1]
  | f + 1,n,r,h => by
    by_cases c:n < 128
    · have e:=u8_toNat n (by omega)
      have e1:∀ t,run (u8 n :: t)=0:=fun t => run_cons_lo t (by omega)
      rw [vpf,if_pos c]
      refine ⟨?_,?_,?_,?_⟩
      · show run (u8 n :: r) + 1=1
        rw [e1]
      · show (u8 n).toNat % 128 + 128 * 0=n
        rw [e];omega
      · intro h0
        show top (u8 n :: r) ≠ 0
        unfold top
        rw [e1]
        show (u8 n).toNat ≠ 0
        omega
      · show run (u8 n :: []) + 1=1
        rw [e1]
    · have hd:n / 128 < 128 ^ (f + 1):=by
        rw [Nat.pow_succ] at h
        exact Nat.div_lt_of_lt_mul (by omega)
      obtain ⟨i1,i2,i3,i4⟩:=run_vpf f (n / 128) r hd
      have e:=u8_toNat (128 + n % 128) (by omega)
      have e1:∀ t,run (u8 (128 + n % 128) :: t)=run t + 1:=fun t => run_cons_hi t (by omega)
      rw [vpf,if_neg c]
      refine ⟨?_,?_,?_,?_⟩
      · rw [List.cons_append,e1,i1];rfl
      · rw [vval,i2,e];omega
      · intro _
        have i3:=i3 (by omega)
        unfold top at i3 ⊢
        rw [List.cons_append,e1,List.getD_cons_succ]
        exact i3
      · rw [e1,i4];rfl
theorem readN_vp (pre r:List UInt8) (n:Nat) (h:n < 18446744073709551616):readN (pre ++ vp n ++ r) pre.length=(n,(pre.length:Int) + (vp n).length,0):=by
  obtain ⟨i1,i2,i3,_⟩:=run_vpf 9 n r (by omega)
  have hp:=vpf_length_pos 9 n
  have hd:(pre ++ vp n ++ r).drop pre.length=vp n ++ r:=by rw [List.append_assoc,List.drop_left]
  have hs:seg (vp n ++ r)=vp n:=by
    unfold seg
    show List.take (run (vpf 9 n ++ r) + 1) (vpf 9 n ++ r)=vpf 9 n
    rw [i1];exact List.take_left
  have hl:run (vp n ++ r) < (vp n ++ r).length:=by
    show run (vpf 9 n ++ r) < (vpf 9 n ++ r).length
    rw [List.length_append];omega
  have hb:¬ bad (vp n ++ r):=by
    unfold bad
    rw [hs]
    show ¬ ((0 < run (vpf 9 n ++ r)∧top (vpf 9 n ++ r)=0)∨18446744073709551616≤vval (vpf 9 n))
    rw [i2]
    rintro (⟨ha,hb⟩ | hb)
    · by_cases n0:n=0
      · subst n0
        have:(vpf 9 0).length=1:=rfl
        omega
      · exact i3 (by omega) hb
    · omega
  have e:=readN_yes (l:=pre ++ vp n ++ r) (k:=pre.length) (by rw [List.append_assoc,List.length_append];omega) (by rw [hd];exact hl) (by rw [hd];exact hb)
  rw [e,hd,hs]
  have i1':run (vp n ++ r) + 1=(vp n).length:=i1
  show (vval (vpf 9 n),(pre.length:Int) + run (vp n ++ r) + 1,(0:Int))=_
  rw [i2,← i1']
  refine Prod.ext rfl (Prod.ext ?_ rfl)
  show (pre.length:Int) + run (vp n ++ r) + 1=(pre.length:Int) + ((run (vp n ++ r) + 1:Nat):Int)
  omega
theorem vp_pos (n:Nat):0 < (vp n).length:=vpf_length_pos 9 n
theorem vp_le (n:Nat):(vp n).length≤10:=vpf_length_le 9 n
def zz (x:Int):Nat:=if x < 0 then (-2 * x - 1).toNat else (2 * x).toNat
def unzz (m:Nat):Int:=if m % 2=1 then -((m / 2:Nat):Int) - 1 else ((m / 2:Nat):Int)
theorem zz_lt {x:Int} (h:-9223372036854775808≤x) (h2:x≤9223372036854775807):zz x < 18446744073709551616:=by
  unfold zz;split <;> omega
theorem unzz_zz (x:Int):unzz (zz x)=x:=by
  unfold unzz zz
  split <;> split <;> omega
theorem sizes (b:Nat) (h:b < 63):(vp (2 ^ b)).length=b / 7 + 1∧(vp (2 ^ b - 1)).length=max 1 ((b + 6) / 7)∧(vp (2 * (2 ^ b - 1))).length=(vp (2 * 2 ^ b - 1)).length:=by
  have:∀ b:Fin 63,(vp (2 ^ b.val)).length=b.val / 7 + 1∧(vp (2 ^ b.val - 1)).length=max 1 ((b.val + 6) / 7)∧(vp (2 * (2 ^ b.val - 1))).length=(vp (2 * 2 ^ b.val - 1)).length:=by decide +kernel
  exact this ⟨b,h⟩
end Go.Proofs.YtfbmlefhjoblbaaGreat
namespace Go.Proofs.YtfbmlefhjoblbaaGreat
def textB (l:List UInt8):ByteArray:=⟨l.toArray⟩
theorem textB_list (l:List UInt8):(textB l).data.toList=l:=rfl
theorem textB_size (l:List UInt8):(textB l).size=l.length:=rfl
theorem size_list (s:ByteArray):s.size=s.data.toList.length:=(Array.length_toList).symm
end Go.Proofs.YtfbmlefhjoblbaaGreat
namespace Go.Proofs.YtfbmlefhjoblbaaGreat
def wid (x:Nat):Nat:=if x=0 then 0 else wid (x / 2) + 1
termination_by x
decreasing_by omega
theorem wid_zero:wid 0=0:=by rw [wid,if_pos rfl]
theorem wid_pos {x:Nat} (h:0 < x):wid x=wid (x / 2) + 1:=by rw [wid,if_neg (by omega)]
theorem wid_le:∀ (k x:Nat),wid x≤k ↔ x < 2 ^ k
  | 0,x => by
    by_cases c:x=0
    · subst c;simp [wid_zero]
    · rw [wid_pos (by omega)];simp;omega
  | k + 1,x => by
    by_cases c:x=0
    · subst c;simp [wid_zero];exact Nat.two_pow_pos _
    · have:=wid_le k (x / 2)
      rw [wid_pos (by omega),Nat.pow_succ]
      omega
theorem wid_lt64 {x:Nat} (h:x < 9223372036854775808):wid x≤63:=(wid_le 63 x).2 (by omega)
def packN (w:Nat):List Nat→Nat
  | [] => 0
  | x :: l => x + 2 ^ w * packN w l
def bytesN:Nat→Nat→List UInt8
  | 0,_ => []
  | c + 1,S => u8 (S % 256) :: bytesN c (S / 256)
def numB:List UInt8→Nat
  | [] => 0
  | b :: l => b.toNat + 256 * numB l
def unpackN (w:Nat):Nat→Nat→List Nat
  | 0,_ => []
  | n + 1,S => S % 2 ^ w :: unpackN w n (S / 2 ^ w)
theorem bytesN_length:∀ c S,(bytesN c S).length=c
  | 0,_ => rfl
  | c + 1,S => by rw [bytesN,List.length_cons,bytesN_length c]
theorem unpackN_length (w:Nat):∀ n S,(unpackN w n S).length=n
  | 0,_ => rfl
  | n + 1,S => by rw [unpackN,List.length_cons,unpackN_length w n]
theorem u8_mod (S:Nat):(u8 (S % 256)).toNat=S % 256:=u8_toNat _ (Nat.mod_lt _ (by omega))
theorem numB_lt:∀ l:List UInt8,numB l < 256 ^ l.length
  | [] => by simp [numB]
  | b :: l => by
    have:=numB_lt l
    have hb:=b.toNat_lt
    rw [numB,List.length_cons,Nat.pow_succ]
    omega
theorem numB_bytesN:∀ c S,S < 256 ^ c→numB (bytesN c S)=S
  | 0,S,h => by simp at h;subst h;rfl
  | c + 1,S,h => by
    have hd:S / 256 < 256 ^ c:=by rw [Nat.pow_succ] at h;omega
    rw [bytesN,numB,numB_bytesN c _ hd,u8_mod]
    omega
theorem bytesN_numB:∀ l:List UInt8,bytesN l.length (numB l)=l
  | [] => rfl
  | b :: l => by
    have hb:b.toNat < 256:=b.toNat_lt
    have e1:(b.toNat + 256 * numB l) % 256=b.toNat:=by omega
    have e2:(b.toNat + 256 * numB l) / 256=numB l:=by omega
    rw [List.length_cons,bytesN,numB,e1,e2,bytesN_numB l]
    congr 1
    exact UInt8.ofNat_toNat
theorem bytesN_get:∀ (c S j:Nat) (h:j < (bytesN c S).length),((bytesN c S)[j]).toNat=S / 256 ^ j % 256
  | 0,S,j,h => by simp [bytesN] at h
  | c + 1,S,0,h => by simp [bytesN,u8_mod]
  | c + 1,S,j + 1,h => by
    have h2:j < (bytesN c (S / 256)).length:=by rw [bytesN_length] at h ⊢;omega
    have:=bytesN_get c (S / 256) j h2
    rw [Nat.div_div_eq_div_mul,Nat.mul_comm,← Nat.pow_succ] at this
    simpa [bytesN] using this
theorem bytesN_snoc:∀ (c S:Nat),bytesN (c + 1) S=bytesN c S ++ [u8 (S / 256 ^ c % 256)]
  | 0,S => by simp [bytesN]
  | c + 1,S => by
    have:=bytesN_snoc c (S / 256)
    rw [Nat.div_div_eq_div_mul,Nat.mul_comm,← Nat.pow_succ] at this
    rw [bytesN,this]
    rfl
theorem unpackN_get (w:Nat):∀ (n S i:Nat) (h:i < (unpackN w n S).length),(unpackN w n S)[i]=S / 2 ^ (w * i) % 2 ^ w
  | 0,S,i,h => by simp [unpackN] at h
  | n + 1,S,0,h => by simp [unpackN]
  | n + 1,S,i + 1,h => by
    have h2:i < (unpackN w n (S / 2 ^ w)).length:=by rw [unpackN_length] at h ⊢;omega
    have:=unpackN_get w n (S / 2 ^ w) i h2
    rw [Nat.div_div_eq_div_mul,← Nat.pow_add,Nat.add_comm,← Nat.mul_succ] at this
    simpa [unpackN] using this
theorem packN_snoc (w:Nat):∀ (l:List Nat) (x:Nat),packN w (l ++ [x])=packN w l + 2 ^ (w * l.length) * x
  | [],x => by simp [packN]
  | y :: l,x => by
    rw [List.cons_append,packN,packN_snoc w l x,packN,List.length_cons,Nat.mul_succ,Nat.add_comm (w * l.length) w,Nat.pow_add,Nat.mul_add,Nat.mul_assoc]
    omega
theorem packN_lt (w:Nat):∀ l:List Nat,(∀ x ∈ l,x < 2 ^ w)→packN w l < 2 ^ (w * l.length)
  | [],_ => by simp [packN]
  | x :: l,h => by
    have h1:=packN_lt w l (fun y hy => h y (List.mem_cons_of_mem _ hy))
    have h2:=h x (List.mem_cons_self ..)
    rw [packN,List.length_cons,Nat.mul_succ,Nat.add_comm (w * l.length) w,Nat.pow_add]
    have h3:2 ^ w * (packN w l + 1)≤2 ^ w * 2 ^ (w * l.length):=Nat.mul_le_mul_left _ h1
    rw [Nat.mul_succ] at h3
    omega
theorem unpack_pack (w:Nat):∀ l:List Nat,(∀ x ∈ l,x < 2 ^ w)→unpackN w l.length (packN w l)=l
  | [],_ => rfl
  | x :: l,h => by
    have h2:=h x (List.mem_cons_self ..)
    have h0:0 < 2 ^ w:=Nat.two_pow_pos w
    rw [List.length_cons,unpackN,packN,Nat.add_mul_mod_self_left,Nat.mod_eq_of_lt h2,Nat.add_mul_div_left _ _ h0,Nat.div_eq_of_lt h2,Nat.zero_add,unpack_pack w l (fun y hy => h y (List.mem_cons_of_mem _ hy))]
end Go.Proofs.YtfbmlefhjoblbaaGreat
namespace Go.Proofs.YtfbmlefhjoblbaaGreat
set_option linter.unusedVariables false
theorem mod_div_pow (S t a:Nat) (h:a≤t):S % 2 ^ t / 2 ^ a=S / 2 ^ a % 2 ^ (t - a):=by
  have e:2 ^ t=2 ^ a * 2 ^ (t - a):=by rw [← Nat.pow_add];congr 1;omega
  rw [e,Nat.mod_mul_right_div_self]
theorem mod_mod_pow (X a b:Nat) (h:b≤a):X % 2 ^ a % 2 ^ b=X % 2 ^ b:=Nat.mod_mod_of_dvd X (Nat.pow_dvd_pow 2 h)
theorem mod_mod_low (X a b:Nat) (h:a≤b):X % 2 ^ a % 2 ^ b=X % 2 ^ a:=by
  have h1:=Nat.mod_lt X (Nat.two_pow_pos a)
  have h2:2 ^ a≤2 ^ b:=Nat.pow_le_pow_right (by omega) h
  exact Nat.mod_eq_of_lt (by omega)
theorem bit_low (X w k:Nat) (h:k < w):X % 2 ^ w / 2 ^ k % 2=X / 2 ^ k % 2:=by
  rw [mod_div_pow X w k (by omega)]
  have:=mod_mod_pow (X / 2 ^ k) (w - k) 1 (by omega)
  simpa using this
theorem mod_succ_pow (X k:Nat):X % 2 ^ (k + 1)=X % 2 ^ k + 2 ^ k * (X / 2 ^ k % 2):=by
  rw [Nat.pow_succ,Nat.mod_mul]
theorem digit_low (w S t i:Nat):S % 2 ^ t / 2 ^ (w * i) % 2 ^ w=if w * i + w≤t then S / 2 ^ (w * i) % 2 ^ w else if w * i≤t then S / 2 ^ (w * i) % 2 ^ (t - w * i) else 0:=by
  by_cases c:w * i≤t
  · rw [mod_div_pow S t (w * i) c]
    by_cases c2:w * i + w≤t
    · rw [if_pos c2,mod_mod_pow _ _ _ (by omega)]
    · rw [if_neg c2,if_pos c,mod_mod_low _ _ _ (by omega)]
  · have h1:=Nat.mod_lt S (Nat.two_pow_pos t)
    have h2:2 ^ t≤2 ^ (w * i):=Nat.pow_le_pow_right (by omega) (by omega)
    rw [if_neg (by omega),if_neg c,Nat.div_eq_of_lt (by omega)]
    simp
def part (w S t:Nat):Nat:=S / 2 ^ (w * (t / w)) % 2 ^ (t % w)
theorem part_lt (w S t:Nat):part w S t < 2 ^ (t % w):=Nat.mod_lt _ (Nat.two_pow_pos _)
theorem part_digit (w S t:Nat) (h:0 < w):S % 2 ^ t / 2 ^ (w * (t / w)) % 2 ^ w=part w S t:=by
  have hd:=Nat.div_add_mod t w
  have hm:=Nat.mod_lt t h
  unfold part
  rw [digit_low,if_neg (by omega),if_pos (by omega)]
  congr 2
  omega
theorem digit_step (w S t n:Nat) (h:0 < w) (ht:t < w * n):unpackN w n (S % 2 ^ (t + 1))=(unpackN w n (S % 2 ^ t)).set (t / w) (part w S t + 2 ^ (t % w) * (S / 2 ^ t % 2)):=by
  apply List.ext_getElem
  · rw [List.length_set,unpackN_length,unpackN_length]
  · intro i h1 h2
    have hd:=Nat.div_add_mod t w
    have hm:=Nat.mod_lt t h
    rw [unpackN_get,List.getElem_set]
    by_cases c:t / w=i
    · subst c
      rw [if_pos rfl,digit_low]
      by_cases c2:w * (t / w) + w≤t + 1
      · rw [if_pos c2]
        have e:w=t % w + 1:=by omega
        have:=mod_succ_pow (S / 2 ^ (w * (t / w))) (t % w)
        rw [← e,Nat.div_div_eq_div_mul,← Nat.pow_add,hd] at this
        exact this
      · rw [if_neg c2,if_pos (by omega),show t + 1 - w * (t / w)=t % w + 1 by omega]
        have:=mod_succ_pow (S / 2 ^ (w * (t / w))) (t % w)
        rw [Nat.div_div_eq_div_mul,← Nat.pow_add,hd] at this
        exact this
    · rw [if_neg c,unpackN_get,digit_low,digit_low]
      rcases Nat.lt_or_gt_of_ne c with c1 | c1
      · have:w * (t / w) + w≤w * i:=by
          rw [← Nat.mul_succ];exact Nat.mul_le_mul_left _ c1
        rw [if_neg (show ¬ w * i + w≤t + 1 by omega),if_neg (show ¬ w * i + w≤t by omega),if_neg (show ¬ w * i≤t by omega)]
        by_cases c3:w * i≤t + 1
        · rw [if_pos c3,show t + 1 - w * i=0 by omega];simp [Nat.mod_one]
        · rw [if_neg c3]
      · have:w * i + w≤w * (t / w):=by
          rw [← Nat.mul_succ];exact Nat.mul_le_mul_left _ c1
        rw [if_pos (show w * i + w≤t + 1 by omega),if_pos (show w * i + w≤t by omega)]
theorem bytes_digits:∀ c S:Nat,bytesN c S=(unpackN 8 c S).map u8
  | 0,_ => rfl
  | c + 1,S => by rw [bytesN,unpackN,List.map_cons,bytes_digits c]
theorem byte_step (S t c:Nat) (ht:t < 8 * c):bytesN c (S % 2 ^ (t + 1))=(bytesN c (S % 2 ^ t)).set (t / 8) (u8 (part 8 S t + 2 ^ (t % 8) * (S / 2 ^ t % 2))):=by
  rw [bytes_digits,bytes_digits,digit_step 8 S t c (by omega) ht,List.map_set]
theorem byte_at (S t c:Nat) (ht:t < 8 * c):(bytesN c (S % 2 ^ t))[t / 8]? = some (u8 (part 8 S t)):=by
  have hl:t / 8 < (unpackN 8 c (S % 2 ^ t)).length:=by rw [unpackN_length];omega
  rw [bytes_digits,List.getElem?_map,List.getElem?_eq_getElem hl,unpackN_get,part_digit 8 S t (by omega)]
  rfl
theorem digit_at (w S t n:Nat) (h:0 < w) (ht:t < w * n):(unpackN w n (S % 2 ^ t))[t / w]? = some (part w S t):=by
  have hl:t / w < (unpackN w n (S % 2 ^ t)).length:=by rw [unpackN_length];exact Nat.div_lt_of_lt_mul ht
  rw [List.getElem?_eq_getElem hl,unpackN_get,part_digit w S t h]
theorem bytes_none (c S:Nat):bytesN c (S % 2 ^ 0)=List.replicate c 0:=by
  have e:S % 2 ^ 0=0:=by simp [Nat.mod_one]
  rw [e]
  induction c with
  | zero => rfl
  | succ c ih => rw [bytesN,List.replicate_succ,show (0:Nat) / 256=0 from rfl,ih];rfl
theorem digits_none (w n S:Nat):unpackN w n (S % 2 ^ 0)=List.replicate n 0:=by
  have e:S % 2 ^ 0=0:=by simp [Nat.mod_one]
  rw [e]
  induction n with
  | zero => rfl
  | succ n ih => rw [unpackN,List.replicate_succ,Nat.zero_div,ih,Nat.zero_mod]
theorem pack_bit (w:Nat) (l:List Nat) (hl:∀ x ∈ l,x < 2 ^ w) (i k:Nat) (hi:i < l.length) (hk:k < w):packN w l / 2 ^ (w * i + k) % 2=l[i] / 2 ^ k % 2:=by
  have h1:=unpackN_get w l.length (packN w l) i (by rw [unpackN_length];exact hi)
  have h2:(unpackN w l.length (packN w l))[i]'(by rw [unpackN_length];exact hi)=l[i]:=by simp only [unpack_pack w l hl]
  rw [h2] at h1
  rw [h1,bit_low _ _ _ hk,Nat.div_div_eq_div_mul,← Nat.pow_add]
theorem byte_bit (l:List UInt8) (t:Nat) (h:t / 8 < l.length):numB l / 2 ^ t % 2=l[t / 8].toNat / 2 ^ (t % 8) % 2:=by
  have h1:=bytesN_get l.length (numB l) (t / 8) (by rw [bytesN_length];exact h)
  have h2:(bytesN l.length (numB l))[t / 8]'(by rw [bytesN_length];exact h)=l[t / 8]:=by simp only [bytesN_numB l]
  rw [h2] at h1
  have hd:=Nat.div_add_mod t 8
  have e:(256:Nat) ^ (t / 8)=2 ^ (8 * (t / 8)):=by rw [Nat.pow_mul]
  rw [h1,e,show (256:Nat)=2 ^ 8 from rfl,bit_low _ 8 _ (Nat.mod_lt _ (by omega)),Nat.div_div_eq_div_mul,← Nat.pow_add,hd]
end Go.Proofs.YtfbmlefhjoblbaaGreat
namespace Go.Proofs.YtfbmlefhjoblbaaGreat
set_option linter.unusedVariables false
def bytesFor (n w:Nat):Nat:=(n * w + 7) / 8
theorem bytesFor_le (n w:Nat) (hw:w≤16):bytesFor n w≤2 * n:=by
  unfold bytesFor
  have:n * w≤n * 16:=Nat.mul_le_mul_left _ hw
  omega
def fits (w:Nat) (xs:List Int):Prop:=∀ x ∈ xs,0≤x∧x < 2 ^ w
instance (w:Nat) (xs:List Int):Decidable (fits w xs):=by unfold fits;infer_instance
theorem fits_nil (w:Nat):fits w []:=fun x h => by simp at h
theorem fits_snoc {w:Nat} {xs:List Int} {x:Int} (h:fits w xs) (h0:0≤x) (h1:wid x.toNat≤w):fits w (xs ++ [x]):=by
  intro y hy
  rcases List.mem_append.1 hy with hy | hy
  · exact h y hy
  · simp at hy
    subst hy
    refine ⟨h0,?_⟩
    have h2:=(wid_le w y.toNat).1 h1
    have h3:((2:Int) ^ w)=((2 ^ w:Nat):Int):=by simp
    rw [h3];omega
theorem not_fits {w:Nat} {xs:List Int} {x:Int} (hx:x ∈ xs) (h:x < 0∨¬ wid x.toNat≤w):¬ fits w xs:=by
  intro hf
  obtain ⟨h0,h1⟩:=hf x hx
  rcases h with h | h
  · omega
  · have h3:((2:Int) ^ w)=((2 ^ w:Nat):Int):=by simp
    rw [h3] at h1
    exact h ((wid_le w x.toNat).2 (by omega))
def nats (xs:List Int):List Nat:=xs.map Int.toNat
theorem nats_length (xs:List Int):(nats xs).length=xs.length:=by simp [nats]
def pk (k:Nat) (xs:List Int) (n:Nat):Nat:=packN k ((nats xs).take n)
theorem pk_zero (k:Nat) (xs:List Int):pk k xs 0=0:=by simp [pk,packN]
theorem pk_all (k:Nat) (xs:List Int):pk k xs xs.length=packN k (nats xs):=by
  unfold pk;rw [← nats_length,List.take_length]
theorem pk_succ (k:Nat) (xs:List Int) (n:Nat) (h:n < xs.length):pk k xs (n + 1)=pk k xs n + 2 ^ (k * n) * xs[n].toNat:=by
  have hn:n < (nats xs).length:=by rw [nats_length];exact h
  have e:(nats xs)[n]=xs[n].toNat:=by simp [nats]
  unfold pk
  rw [← List.take_append_getElem hn,packN_snoc,List.length_take,Nat.min_eq_left (Nat.le_of_lt hn),e]
theorem fits_lt {k:Nat} {xs:List Int} (h:fits k xs):∀ x ∈ nats xs,x < 2 ^ k:=by
  intro x hx
  simp only [nats,List.mem_map] at hx
  obtain ⟨y,hy,rfl⟩:=hx
  obtain ⟨h0,h1⟩:=h y hy
  have h3:((2:Int) ^ k)=((2 ^ k:Nat):Int):=by simp
  rw [h3] at h1
  omega
theorem pk_lt {k:Nat} {xs:List Int} (h:fits k xs) (n:Nat) (hn:n≤xs.length):pk k xs n < 2 ^ (k * n):=by
  have:=packN_lt k ((nats xs).take n) (fun x hx => fits_lt h x (List.mem_of_mem_take hx))
  rwa [List.length_take,nats_length,Nat.min_eq_left hn] at this
theorem p256 (c:Nat):256 ^ c=2 ^ (8 * c):=by rw [show (256:Nat)=2 ^ 8 from rfl,← Nat.pow_mul]
theorem win_lt {S c m N:Nat} (h:S < 2 ^ N) (e:m + 8 * c=N):S / 256 ^ c < 2 ^ m:=by
  rw [p256,Nat.div_lt_iff_lt_mul (Nat.two_pow_pos _),← Nat.pow_add,e]
  exact h
theorem win_fill (S y c m N:Nat) (e:m + 8 * c=N):(S + 2 ^ N * y) / 256 ^ c=S / 256 ^ c + 2 ^ m * y:=by
  rw [← e,Nat.add_comm m,Nat.pow_add,← p256,Nat.mul_assoc,Nat.add_mul_div_left _ _ (by rw [p256];exact Nat.two_pow_pos _)]
theorem win_empty (S c:Nat):S / 256 ^ c / 2 ^ 8=S / 256 ^ (c + 1):=by
  show S / 256 ^ c / 256=_
  rw [Nat.div_div_eq_div_mul,Nat.pow_succ]
theorem bytes_more (S c:Nat):bytesN c S ++ [u8 (S / 256 ^ c % 2 ^ 8)]=bytesN (c + 1) S:=(bytesN_snoc c S).symm
theorem bytes_last {S c m N:Nat} (h:S < 2 ^ N) (e:m + 8 * c=N) (hm:m < 8) (h0:0 < m):bytesN c S ++ [u8 (S / 256 ^ c % 2 ^ m)]=bytesN ((N + 7) / 8) S:=by
  have h1:=win_lt h e
  have h2:2 ^ m≤2 ^ 7:=Nat.pow_le_pow_right (by omega) (by omega)
  rw [show (N + 7) / 8=c + 1 by omega,← bytes_more,Nat.mod_eq_of_lt h1,Nat.mod_eq_of_lt (a:=S / 256 ^ c) (by omega)]
theorem bytes_full {S c m N:Nat} (e:m + 8 * c=N) (h0:m=0):bytesN c S=bytesN ((N + 7) / 8) S:=by
  rw [show (N + 7) / 8=c by omega]
def packA (xs:List Int) (z:Int):ByteArray × Int :=
  if 0≤z∧z≤16 then (if fits z.toNat xs then (textB (bytesN (bytesFor xs.length z.toNat) (packN z.toNat (nats xs))),0) else (ByteArray.empty,601)) else (ByteArray.empty,600)
theorem packA_width {xs:List Int} {z:Int} (h:¬ (0≤z∧z≤16)):packA xs z=(ByteArray.empty,600):=if_neg h
theorem packA_range {xs:List Int} {k:Nat} (h:k≤16) (hf:¬ fits k xs):packA xs k=(ByteArray.empty,601):=by
  unfold packA;rw [if_pos (by omega),Int.toNat_natCast,if_neg hf]
theorem packA_yes {xs:List Int} {k:Nat} (h:k≤16) (hf:fits k xs):packA xs k=(textB (bytesN ((k * xs.length + 7) / 8) (pk k xs xs.length)),0):=by
  unfold packA bytesFor;rw [if_pos (by omega),Int.toNat_natCast,if_pos hf,pk_all,Nat.mul_comm]
def dig (k S i:Nat):Nat:=S / 2 ^ (k * i) % 2 ^ k
theorem dig_lt (k S i:Nat):dig k S i < 2 ^ k:=Nat.mod_lt _ (Nat.two_pow_pos _)
theorem unpack_range (k S n:Nat):unpackN k n S=(List.range n).map (dig k S):=by
  apply List.ext_getElem
  · rw [unpackN_length];simp
  · intro i h1 h2
    rw [unpackN_get]
    simp [dig]
def wst (k S a i:Nat):Nat:=S % 256 ^ a / 2 ^ (k * i)
theorem wst_zero (k S i:Nat):wst k S 0 i=0:=by unfold wst;rw [Nat.pow_zero,Nat.mod_one,Nat.zero_div]
theorem wst_lt {k S a i m:Nat} (e:m + k * i=8 * a):wst k S a i < 2 ^ m:=by
  unfold wst
  rw [Nat.div_lt_iff_lt_mul (Nat.two_pow_pos _),← Nat.pow_add,e,p256]
  exact Nat.mod_lt _ (Nat.two_pow_pos _)
theorem wst_fill {k S a i m:Nat} (e:m + k * i=8 * a):wst k S a i + 2 ^ m * (S / 256 ^ a % 256)=wst k S (a + 1) i:=by
  unfold wst
  have h:S % 256 ^ (a + 1)=S % 256 ^ a + 256 ^ a * (S / 256 ^ a % 256):=by rw [Nat.pow_succ,Nat.mod_mul]
  have h2:256 ^ a=2 ^ (k * i) * 2 ^ m:=by rw [p256,← e,← Nat.pow_add,Nat.add_comm]
  rw [h]
  generalize S / 256 ^ a % 256=c
  generalize S % 256 ^ a=X
  rw [h2,Nat.mul_assoc,Nat.add_mul_div_left _ _ (Nat.two_pow_pos _)]
theorem wst_digit {k S a i m:Nat} (e:m + k * i=8 * a) (h:k≤m):wst k S a i % 2 ^ k=dig k S i:=by
  unfold wst dig
  rw [p256,digit_low,if_pos (by omega)]
theorem wst_empty (k S a i:Nat):wst k S a i / 2 ^ k=wst k S a (i + 1):=by
  unfold wst
  rw [Nat.div_div_eq_div_mul,← Nat.pow_add,← Nat.mul_succ]
theorem wst_end {k S a i:Nat} (h:S < 256 ^ a):wst k S a i=S / 2 ^ (k * i):=by
  unfold wst;rw [Nat.mod_eq_of_lt h]
def numT (s:ByteArray):Nat:=numB s.data.toList
theorem numT_lt (s:ByteArray):numT s < 256 ^ s.size:=numB_lt _
theorem numT_byte (s:ByteArray) (a:Nat) (h:a < s.size):(s[a]'h).toNat=numT s / 256 ^ a % 256:=by
  have h1:=bytesN_get s.size (numT s) a (by rw [bytesN_length];exact h)
  have h2:bytesN s.size (numT s)=s.data.toList:=bytesN_numB _
  rw [← h1]
  simp only [h2]
  rfl
def unpackA (s:ByteArray) (many z:Int):List Int × Int :=
  if 0≤z∧z≤16 then
    if 0≤many∧many≤65536 then
      if s.size=bytesFor many.toNat z.toNat∧numT s / 2 ^ (z.toNat * many.toNat)=0 then ((List.range many.toNat).map (fun i => (dig z.toNat (numT s) i:Int)),0) else ([],602)
    else ([],601)
  else ([],600)
theorem unpackA_width {s:ByteArray} {many z:Int} (h:¬ (0≤z∧z≤16)):unpackA s many z=([],600):=if_neg h
theorem unpackA_many {s:ByteArray} {many:Int} {k:Nat} (h:k≤16) (hm:¬ (0≤many∧many≤65536)):unpackA s many k=([],601):=by
  unfold unpackA;rw [if_pos (by omega),if_neg hm]
theorem unpackA_cut {s:ByteArray} {n k:Nat} (h:k≤16) (hm:n≤65536) (hc:¬ (s.size=bytesFor n k∧numT s / 2 ^ (k * n)=0)):unpackA s n k=([],602):=by
  unfold unpackA;rw [if_pos (by omega),if_pos (by omega),Int.toNat_natCast,Int.toNat_natCast,if_neg hc]
theorem unpackA_yes {s:ByteArray} {n k:Nat} (h:k≤16) (hm:n≤65536) (hc:s.size=bytesFor n k∧numT s / 2 ^ (k * n)=0):unpackA s n k=((List.range n).map (fun i => (dig k (numT s) i:Int)),0):=by
  unfold unpackA;rw [if_pos (by omega),if_pos (by omega),Int.toNat_natCast,Int.toNat_natCast,if_pos hc]
theorem pack_there (ys:List Int) (m:Nat) (hm:m≤16) (hl:ys.length≤65536) (h:fits m ys):∃ t:ByteArray,packA ys m=(t,0)∧t.size=bytesFor ys.length m∧unpackA t ys.length m=(ys,0):=by
  refine ⟨_,packA_yes hm h,by rw [textB_size,bytesN_length,bytesFor,Nat.mul_comm],?_⟩
  have hlt:=pk_lt h ys.length (Nat.le_refl _)
  have hc:pk m ys ys.length < 256 ^ ((m * ys.length + 7) / 8):=by
    rw [p256]
    exact Nat.lt_of_lt_of_le hlt (Nat.pow_le_pow_right (by omega) (by omega))
  have hn:numT (textB (bytesN ((m * ys.length + 7) / 8) (pk m ys ys.length)))=pk m ys ys.length:=by
    unfold numT
    rw [textB_list,numB_bytesN _ _ hc]
  rw [unpackA_yes hm hl ⟨by rw [textB_size,bytesN_length,bytesFor,Nat.mul_comm],by rw [hn];exact Nat.div_eq_of_lt hlt⟩,hn,pk_all]
  have hu:=unpack_pack m (nats ys) (fits_lt h)
  rw [nats_length,unpack_range] at hu
  have e:(List.range ys.length).map (fun i => (dig m (packN m (nats ys)) i:Int))=((List.range ys.length).map (dig m (packN m (nats ys)))).map Int.ofNat:=by
    rw [List.map_map];rfl
  rw [e,hu]
  congr 1
  unfold nats
  rw [List.map_map]
  conv => rhs;rw [← List.map_id ys]
  apply List.map_congr_left
  intro y hy
  show ((y.toNat:Nat):Int)=y
  have:=(h y hy).1
  omega
end Go.Proofs.YtfbmlefhjoblbaaGreat
