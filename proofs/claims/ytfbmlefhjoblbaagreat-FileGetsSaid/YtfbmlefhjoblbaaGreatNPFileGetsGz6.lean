/- Spaces and remarks left out: a claim is at most so large. Spaces and remarks left out: a claim is at most so large. Spaces and remarks left out: a claim is at most so large. -/
import Derived.ProofKit
import Derived.Test.YtfbmlefhjoblbaaGreatRows
import Derived.Conc.LoneCalls
import Derived.WalkKit
import Derived.WalkSmall
import Derived.Laws.Rows
import Derived.Lib.SmallJoins
import Derived.Lib.Hide
import Derived.Below
import Derived.Deep.QuietTactic
import Derived.Test.YtfbmlefhjoblbaaGreatProg
import Derived.WalkLawsBesides
import Derived.WalkSpells
import Derived.Laws.IdiomStrings
import Derived.Laws.BytesString
import Derived.Laws.AppendOwn
import Derived.Lib.AppendStr
import Derived.BigQuiet
import Derived.Deep.RegionLaw
import Derived.ChangeOld
import Derived.OpenShut
import Derived.SizedLaws
namespace Go.Proofs.YtfbmlefhjoblbaaGreat
def nxt (l:List UInt8) (i:Nat):Int :=
  match l[i]? with
  | some b => if b.toNat < 128∨191 < b.toNat then -1 else (b.toNat:Int) - 128
  | none => -1
def lead (l:List UInt8) (i:Nat):Int :=
  match l[i]? with
  | some b => (b.toNat:Int)
  | none => -1
def run4 (c a b d:Int):Int × Int :=
  if c < 0 then (0,0) else if c < 128 then (c,1) else if c < 194∨244 < c then (0,0)
  else if c < 224 then (if 0≤a then ((c - 192) * 64 + a,2) else (0,0))
  else if c < 240 then (if 0≤a∧0≤b∧2048≤(c - 224) * 4096 + a * 64 + b∧((c - 224) * 4096 + a * 64 + b < 55296∨57343 < (c - 224) * 4096 + a * 64 + b) then ((c - 224) * 4096 + a * 64 + b,3) else (0,0))
  else (if 0≤a∧0≤b∧0≤d∧65536≤(c - 240) * 262144 + a * 4096 + b * 64 + d∧(c - 240) * 262144 + a * 4096 + b * 64 + d≤1114111 then ((c - 240) * 262144 + a * 4096 + b * 64 + d,4) else (0,0))
def rr (l:List UInt8) (i:Nat):Int × Int:=run4 (lead l i) (nxt l (i + 1)) (nxt l (i + 2)) (nxt l (i + 3))
def sz (r:Int):Int :=
  if r < 0∨1114111 < r then 0 else if 55296≤r∧r≤57343 then 0 else if r≤127 then 1 else if r≤2047 then 2 else if r≤65535 then 3 else 4
def rl (c:Int):Int × Int :=
  if c≤127 then (c,1) else if c < 192 then (0,0) else if c < 224 then (c - 192,2) else if c < 240 then (c - 224,3) else if c < 248 then (c - 240,4) else (0,0)
def acc (l:List UInt8) (i:Nat) (r0:Int):Nat→Int
  | 0 => r0
  | 1 => r0
  | k + 2 => acc l i r0 (k + 1) * 64 + nxt l (i + (k + 1))
def Good (l:List UInt8) (i k:Nat):Prop:=∀ j,1≤j→j < k→0≤nxt l (i + j)
theorem nxt_lo (l:List UInt8) (i:Nat):-1≤nxt l i:=by
  unfold nxt;split
  · split <;> omega
  · omega
theorem nxt_hi (l:List UInt8) (i:Nat):nxt l i≤63:=by
  unfold nxt;split
  · split <;> omega
  · omega
theorem nxt_none {l:List UInt8} {i:Nat} (h:l.length≤i):nxt l i = -1:=by
  unfold nxt;rw [List.getElem?_eq_none h]
theorem nxt_len {l:List UInt8} {i:Nat} (h:0≤nxt l i):i < l.length:=by
  apply Decidable.byContradiction
  intro hn
  rw [nxt_none (by omega)] at h
  omega
theorem nxt_yes {l:List UInt8} {i:Nat} (h:i < l.length) (h1:128≤l[i].toNat) (h2:l[i].toNat≤191):nxt l i=(l[i].toNat:Int) - 128:=by
  unfold nxt;rw [List.getElem?_eq_getElem h]
  exact if_neg (by omega)
theorem nxt_no {l:List UInt8} {i:Nat} (h:i < l.length) (h1:l[i].toNat < 128∨191 < l[i].toNat):nxt l i = -1:=by
  unfold nxt;rw [List.getElem?_eq_getElem h]
  exact if_pos h1
theorem lead_some {l:List UInt8} {i:Nat} (h:i < l.length):lead l i=(l[i].toNat:Int):=by
  unfold lead;rw [List.getElem?_eq_getElem h]
theorem lead_none {l:List UInt8} {i:Nat} (h:l.length≤i):lead l i = -1:=by
  unfold lead;rw [List.getElem?_eq_none h]
theorem lead_hi (l:List UInt8) (i:Nat):lead l i≤255:=by
  unfold lead;split
  · rename_i b _;have:=b.toNat_lt;omega
  · omega
theorem acc_succ (l:List UInt8) (i:Nat) (r0:Int) (k:Nat) (h:1≤k):acc l i r0 (k + 1)=acc l i r0 k * 64 + nxt l (i + k):=by
  cases k with
  | zero => omega
  | succ k => rfl
theorem run4_le (c a b d:Int):0≤(run4 c a b d).2∧(run4 c a b d).2≤4:=by
  unfold run4
  repeat' split
  all_goals simp
theorem rr_le (l:List UInt8) (i:Nat):0≤(rr l i).2∧(rr l i).2≤4:=run4_le _ _ _ _
theorem rr_in (l:List UInt8) (i:Nat):(rr l i).2 ≠ 0→(i:Int) + (rr l i).2≤l.length:=by
  intro h
  have h0:i < l.length:=by
    apply Decidable.byContradiction
    intro hn
    apply h
    unfold rr run4
    rw [lead_none (by omega)]
    simp
  have ha:=@nxt_len l (i + 1)
  have hb:=@nxt_len l (i + 2)
  have hd:=@nxt_len l (i + 3)
  revert h
  unfold rr run4
  repeat' split
  all_goals simp
  all_goals omega
def fin (x k:Int):Int × Int:=if sz x=k then (x,k) else (0,0)
theorem sz_one (r:Int):sz r=1 ↔ 0≤r∧r≤127:=by
  unfold sz
  repeat' split
  all_goals omega
theorem sz_two (r:Int):sz r=2 ↔ 128≤r∧r≤2047:=by
  unfold sz
  repeat' split
  all_goals omega
theorem fin1 (c a b d:Int) (h0:0≤c) (h1:c≤127):run4 c a b d=fin c 1:=by
  unfold run4 fin
  rw [if_pos ((sz_one c).2 ⟨h0,h1⟩),if_neg (by omega),if_pos (by omega)]
theorem fin2 (c a b d:Int) (h0:192≤c) (h1:c < 224) (a0:0≤a) (a1:a≤63):run4 c a b d=fin ((c - 192) * 64 + a) 2:=by
  unfold run4 fin
  rw [if_neg (by omega),if_neg (by omega)]
  by_cases h4:c < 194
  · rw [if_pos (.inl h4),if_neg (by rw [sz_two];omega)]
  · rw [if_neg (by omega),if_pos h1,if_pos a0,if_pos (by rw [sz_two];omega)]
theorem sz_three (r:Int):sz r=3 ↔ 2048≤r∧r≤65535∧(r < 55296∨57343 < r):=by
  unfold sz
  repeat' split
  all_goals omega
theorem sz_four (r:Int):sz r=4 ↔ 65536≤r∧r≤1114111:=by
  unfold sz
  repeat' split
  all_goals omega
theorem fin3 (c a b d:Int) (h0:224≤c) (h1:c < 240) (a0:0≤a) (a1:a≤63) (b0:0≤b) (b1:b≤63):run4 c a b d=fin ((c - 224) * 4096 + a * 64 + b) 3:=by
  unfold run4 fin
  rw [if_neg (by omega),if_neg (by omega),if_neg (by omega),if_neg (by omega),if_pos h1]
  by_cases h:sz ((c - 224) * 4096 + a * 64 + b)=3
  · rw [if_pos h]
    rw [sz_three] at h
    rw [if_pos ⟨a0,b0,h.1,h.2.2⟩]
  · rw [if_neg h]
    rw [sz_three] at h
    rw [if_neg (fun h' => h ⟨h'.2.2.1,by omega,h'.2.2.2⟩)]
theorem fin4 (c a b d:Int) (h0:240≤c) (h1:c < 248) (a0:0≤a) (a1:a≤63) (b0:0≤b) (b1:b≤63) (d0:0≤d) (d1:d≤63):run4 c a b d=fin ((c - 240) * 262144 + a * 4096 + b * 64 + d) 4:=by
  unfold run4 fin
  rw [if_neg (by omega),if_neg (by omega)]
  by_cases h:sz ((c - 240) * 262144 + a * 4096 + b * 64 + d)=4
  · rw [if_pos h]
    rw [sz_four] at h
    rw [if_neg (by omega),if_neg (by omega),if_neg (by omega),if_pos ⟨a0,b0,d0,h.1,h.2⟩]
  · rw [if_neg h]
    rw [sz_four] at h
    by_cases h8:c < 194∨244 < c
    · rw [if_pos h8]
    · rw [if_neg h8,if_neg (by omega),if_neg (by omega),if_neg (fun h' => h ⟨h'.2.2.2.1,h'.2.2.2.2⟩)]
theorem rr_fin (l:List UInt8) (i:Nat) (h:i < l.length) (k:Nat) (hk:(rl (lead l i)).2=k) (h0:k ≠ 0) (hg:Good l i k) (x:Int) (hx:acc l i (rl (lead l i)).1 k=x) :
    rr l i=fin x k:=by
  have hc0:0≤lead l i:=by rw [lead_some h];omega
  have hc1:=lead_hi l i
  have a1:=nxt_hi l (i + 1)
  have a2:=nxt_hi l (i + 2)
  have a3:=nxt_hi l (i + 3)
  unfold rr
  generalize lead l i=c at *
  unfold rl at hk hx
  by_cases h1:c≤127
  · rw [if_pos h1] at hk hx
    obtain rfl:k=1:=by simp at hk;omega
    obtain rfl:c=x:=hx
    exact fin1 _ _ _ _ hc0 h1
  rw [if_neg h1] at hk hx
  by_cases h2:c < 192
  · rw [if_pos h2] at hk;simp at hk;omega
  rw [if_neg h2] at hk hx
  by_cases h3:c < 224
  · rw [if_pos h3] at hk hx
    obtain rfl:k=2:=by simp at hk;omega
    have hx':(c - 192) * 64 + nxt l (i + 1)=x:=hx
    rw [← hx']
    exact fin2 _ _ _ _ (by omega) h3 (hg 1 (by omega) (by omega)) a1
  rw [if_neg h3] at hk hx
  by_cases h5:c < 240
  · rw [if_pos h5] at hk hx
    obtain rfl:k=3:=by simp at hk;omega
    have hx':((c - 224) * 64 + nxt l (i + 1)) * 64 + nxt l (i + 2)=x:=hx
    have e:(c - 224) * 4096 + nxt l (i + 1) * 64 + nxt l (i + 2)=x:=by omega
    rw [← e]
    exact fin3 _ _ _ _ (by omega) h5 (hg 1 (by omega) (by omega)) a1 (hg 2 (by omega) (by omega)) a2
  rw [if_neg h5] at hk hx
  by_cases h7:c < 248
  · rw [if_pos h7] at hk hx
    obtain rfl:k=4:=by simp at hk;omega
    have hx':(((c - 240) * 64 + nxt l (i + 1)) * 64 + nxt l (i + 2)) * 64 + nxt l (i + 3)=x:=hx
    have e:(c - 240) * 262144 + nxt l (i + 1) * 4096 + nxt l (i + 2) * 64 + nxt l (i + 3)=x:=by omega
    rw [← e]
    exact fin4 _ _ _ _ (by omega) h7 (hg 1 (by omega) (by omega)) a1 (hg 2 (by omega) (by omega)) a2 (hg 3 (by omega) (by omega)) a3
  · rw [if_neg h7] at hk;simp at hk;omega
theorem rl_range (c:Int) (h0:0≤c) (h:c≤255):0≤(rl c).1∧(rl c).1≤127∧0≤(rl c).2∧(rl c).2≤4:=by
  unfold rl
  repeat' split
  all_goals simp
  all_goals omega
theorem rr_bad (l:List UInt8) (i:Nat) (h:(rl (lead l i)).2=0∨(l.length:Int) - i < (rl (lead l i)).2∨∃ j:Nat,1≤j∧(j:Int) < (rl (lead l i)).2∧nxt l (i + j) = -1):rr l i=(0,0):=by
  have ha:=@nxt_len l (i + 1)
  have hb:=@nxt_len l (i + 2)
  have hd:=@nxt_len l (i + 3)
  have hl:0≤lead l i→i < l.length:=by
    intro h
    apply Decidable.byContradiction
    intro hn
    rw [lead_none (by omega)] at h
    omega
  by_cases h0:lead l i < 0
  · unfold rr run4
    rw [if_pos h0]
  have hl':=hl (by omega)
  rcases h with h | h | ⟨j,j1,j2,hj⟩
  · unfold rr run4
    unfold rl at h
    generalize lead l i=c at *
    repeat' split
    all_goals first | rfl | (exfalso;repeat' split at h) <;> simp at h <;> omega
  · unfold rr run4
    unfold rl at h
    generalize lead l i=c at *
    repeat' split
    all_goals first | rfl | (exfalso;repeat' split at h) <;> simp at h <;> omega
  · have hj':(j=1∨j=2∨j=3):=by
      have:(rl (lead l i)).2≤4:=(rl_range _ (by omega) (lead_hi _ _)).2.2.2
      omega
    unfold rr run4
    unfold rl at j2
    generalize lead l i=c at *
    rcases hj' with rfl | rfl | rfl <;> rw [hj]
    all_goals repeat' split
    all_goals first | rfl | (exfalso;repeat' split at j2) <;> simp at j2 <;> omega
end Go.Proofs.YtfbmlefhjoblbaaGreat
namespace Go.Proofs.YtfbmlefhjoblbaaGreat
def firstAt (l:List UInt8) (i:Nat):Int :=
  if i < l.length then (if (rr l i).2=0 then (i:Int) else firstAt l (i + (rr l i).2.toNat)) else -1
termination_by l.length - i
decreasing_by have:=rr_le l i;omega
def first (l:List UInt8):Int:=firstAt l 0
theorem firstAt_end {l:List UInt8} {i:Nat} (h:¬ i < l.length):firstAt l i = -1:=by
  rw [firstAt,if_neg h]
theorem firstAt_stop {l:List UInt8} {i:Nat} (h:i < l.length) (h2:(rr l i).2=0):firstAt l i=i:=by
  rw [firstAt,if_pos h,if_pos h2]
theorem firstAt_go {l:List UInt8} {i:Nat} (h:i < l.length) (h2:(rr l i).2 ≠ 0):firstAt l i=firstAt l (i + (rr l i).2.toNat):=by
  rw [firstAt,if_pos h,if_neg h2]
theorem firstAt_range (l:List UInt8):∀ (m i:Nat),l.length - i≤m→firstAt l i = -1∨0≤firstAt l i∧firstAt l i < l.length
  | m,i,hm => by
    by_cases h:i < l.length
    · by_cases h2:(rr l i).2=0
      · rw [firstAt_stop h h2];omega
      · rw [firstAt_go h h2]
        have hle:=rr_le l i
        cases m with
        | zero => omega
        | succ m => exact firstAt_range l m _ (by omega)
    · rw [firstAt_end h];omega
theorem first_range (l:List UInt8):first l = -1∨0≤first l∧first l < l.length:=firstAt_range l _ 0 (Nat.le_refl _)
def u8 (n:Nat):UInt8:=UInt8.ofNat n
theorem u8_toNat (n:Nat) (h:n < 256):(u8 n).toNat=n:=UInt8.toNat_ofNat_of_lt' h
def enc (r:Nat):List UInt8 :=
  if r < 128 then [u8 r] else if r < 2048 then [u8 (192 + r / 64),u8 (128 + r % 64)]
  else if r < 65536 then [u8 (224 + r / 4096),u8 (128 + r / 64 % 64),u8 (128 + r % 64)]
  else [u8 (240 + r / 262144),u8 (128 + r / 4096 % 64),u8 (128 + r / 64 % 64),u8 (128 + r % 64)]
end Go.Proofs.YtfbmlefhjoblbaaGreat

namespace Go.Proofs.YtfbmlefhjoblbaaGreat
open Go.Conc Go.RowKit
structure Frm (F:Nat→Prop) (w w':World):Prop where
  os:w'.os=w.os
  tape:w'.tape=w.tape
  output:w'.output=w.output
  size:w.heap.size≤w'.heap.size
  block:∀ k,k < w.heap.size→¬ F k→w'.heap[k]? = w.heap[k]?
section
variable {F:Nat→Prop} {w w' a:World}
theorem Frm.refl (F:Nat→Prop) (w:World):Frm F w w:=⟨rfl,rfl,rfl,Nat.le_refl _,fun _ _ _ => rfl⟩
theorem Frm.trans (h:Frm F a w) (k:Frm F w w'):Frm F a w' :=
  ⟨k.os.trans h.os,k.tape.trans h.tape,k.output.trans h.output,Nat.le_trans h.size k.size,fun i hi hn => (k.block i (Nat.lt_of_lt_of_le hi h.size) hn).trans (h.block i hi hn)⟩
theorem Frm.mono {F':Nat→Prop} (h:Frm F w w') (hF:∀ k,k < w.heap.size→F k→F' k):Frm F' w w' :=
  ⟨h.os,h.tape,h.output,h.size,fun k hk hn => h.block k hk fun hf => hn (hF k hk hf)⟩
theorem Frm.below {B:Nat} (h:Frm (fun k => B≤k) w w') (hB:B≤w.heap.size):Below B w w' :=
  ⟨h.os,h.tape,h.output,h.size,fun k hk => h.block k (by omega) (by omega)⟩
theorem Frm.of_new (h:Below w.heap.size w w') (F:Nat→Prop):Frm F w w' :=
  ⟨h.os,h.tape,h.output,h.size,fun k hk _ => h.block k hk⟩
theorem Frm.drew (h:Frm F a w):Frm F a w.drew:=⟨h.os,h.tape,h.output,h.size,h.block⟩
theorem Frm.same {v:World} (h:Frm F a w) (h1:v.heap=w.heap) (h2:v.os=w.os) (h3:v.tape=w.tape) (h4:v.output=w.output):Frm F a v :=
  ⟨h2.trans h.os,h3.trans h.tape,h4.trans h.output,by rw [h1];exact h.size,by rw [h1];exact h.block⟩
theorem Frm.alloc (h:Frm F a w) (o:Obj):Frm F a (w.alloc o) :=
  h.trans ⟨rfl,rfl,rfl,by simp,fun k hk _ => Below.heap_alloc _ _ _ hk⟩
theorem Frm.setCell (h:Frm F a w) {p:Addr} (hp:F p.block) (u:Value):Frm F a (w.setCell p u) :=
  h.trans ⟨rfl,rfl,rfl,by simp [World.setCell],fun k _ hn => Below.heap_setCell _ _ _ _ (fun e => hn (e ▸ hp))⟩
theorem Frm.grown {row:Option Nat} (h:Frm F a w) (hg:w.grownBy w' row) (hr:∀ k,row=some k→F k):Frm F a w' :=
  h.trans ⟨hg.os,hg.tape,hg.output,hg.size,fun k hk hn => hg.block k hk (fun e => hn (hr k e.symm))⟩
end
end Go.Proofs.YtfbmlefhjoblbaaGreat
namespace Go.Proofs.YtfbmlefhjoblbaaGreat
open Go.RowKit
set_option linter.unusedVariables false
set_option linter.unusedSimpArgs false
theorem region_class {P:Program} {id:Nat} {Q:Exit→Act→World→Prop} {a:Act} {w:World} {l:List Oper} (C:World→Prop) (hm:P.follows .mixedOrders=true) (hB:Region.lexB .any l.toArray=true)
    (hC:C { w with drawn:=w.drawn + 1 }) (h:wpQuiet P l.toArray C (fun a' => ∀ w',C w'→Q .normal a' w') l a):(Code.region id l.toArray true).wp P Q a w :=
  wp_region_quiet hm hB hC (by simpa using h)
end Go.Proofs.YtfbmlefhjoblbaaGreat
namespace Go.Proofs.YtfbmlefhjoblbaaGreat
open Go.RowKit
set_option linter.unusedVariables false
def byteCells (l:List UInt8):List Value:=l.map fun b => Value.int .u8 (b.toNat:Int)
theorem bytes_back (w:World) (l:List UInt8) (C:Array Value) (hC:(byteCells l).toArray=C) (n:Nat) (hn:l.length=n) :
    (convert 50 9 (.slice (some ⟨w.heap.size,0,none⟩) n n)).run Tryz.prog (w.alloc (.cells C 5))=.ok (.string ⟨l.toArray⟩) (w.alloc (.cells C 5)):=by
  subst hn hC
  refine run_convert_bytes_back _ 50 9 5 ⟨w.heap.size,0,none⟩ _ l Tryz.underlying50 Tryz.underlying5 Tryz.underlying9 (fun j hj => ?_)
  have e:(⟨w.heap.size,0,none⟩:Addr).add j=⟨w.heap.size,j,none⟩:=by
    unfold Addr.add
    by_cases h0:j=0
    · simp [h0]
    · simp [h0]
  rw [e]
  have hb:(w.alloc (.cells (byteCells l).toArray 5)).heap[w.heap.size]? = some (.cells (byteCells l).toArray 5):=by simp [World.alloc,-World.alloc_eq]
  simp only [World.cell?,hb]
  simp [byteCells,hj]
theorem cells_cons {a x:Value} {b y:List Value} (h:a=x) (h2:b=y):a :: b=x :: y:=by rw [h,h2]
end Go.Proofs.YtfbmlefhjoblbaaGreat
namespace Go.Proofs.YtfbmlefhjoblbaaGreat
open Go.Conc Go.RowKit
theorem own_same {w w':World} {base e size n:Nat} {v:Value} {xs:List Value} (h:w.ownsRow base e size v n xs) (hs:∀ g,base≤g→g < w.heap.size→w'.heap[g]? = w.heap[g]?):w'.ownsRow base e size v n xs:=by
  refine ⟨h.1,?_⟩
  rcases h.2 with hn | ⟨g,cap,cur,rfl,hb,hgg,rest⟩
  · exact .inl hn
  · exact .inr ⟨g,cap,cur,rfl,hb,by rw [hs g hb (Array.getElem?_eq_some_iff.1 hgg).1];exact hgg,rest⟩
theorem own_block {w:World} {base e size n:Nat} {v:Value} {xs:List Value} (h:w.ownsRow base e size v n xs) {k:Nat} (hk:some k=v.ownBlock):base≤k:=by
  rcases h.2 with ⟨rfl,_⟩ | ⟨g,cap,cur,rfl,hb,_⟩
  · simp [Value.ownBlock] at hk
  · simp only [Value.ownBlock,Option.some.injEq] at hk;omega
theorem infoByte:(Tryz.prog.info? 5).map (fun i => (i.zero,i.size,i.bytes))=some (some (.int .u8 0),1,1):=by kernel_rfl
theorem byteCells_append (a b:List UInt8):byteCells (a ++ b)=byteCells a ++ byteCells b:=by simp [byteCells]
theorem byteCells_length (a:List UInt8):(byteCells a).length=a.length:=by simp [byteCells]
theorem own_text {w:World} {base:Nat} {v:Value} {l:List UInt8} (h:w.ownsRow base 5 1 v l.length (byteCells l)):(convert 50 9 v).run Tryz.prog w=.ok (.string ⟨l.toArray⟩) w:=by
  rcases h.2 with ⟨rfl,h0⟩ | ⟨g,cap,cur,rfl,hb,hgg,rest⟩
  · obtain rfl:l=[]:=List.eq_nil_of_length_eq_zero h0
    kernel_rfl
  · exact run_convert_bytes_back w 50 9 5 ⟨g,0,none⟩ cap l Tryz.underlying50 Tryz.underlying5 Tryz.underlying9 (fun j hj => h.cells (g:=g) rfl j _ (by simp [byteCells,List.getElem?_eq_getElem hj]))
end Go.Proofs.YtfbmlefhjoblbaaGreat

namespace Go.Proofs.YtfbmlefhjoblbaaGreat
open Go.Conc Go.RowKit
set_option linter.unusedVariables false
def intCells (l:List Int):List Value:=l.map fun z => Value.int .i64 z
theorem intCells_length (l:List Int):(intCells l).length=l.length:=by simp [intCells]
theorem intCells_append (a b:List Int):intCells (a ++ b)=intCells a ++ intCells b:=by simp [intCells]
theorem intCells_get (l:List Int) (i:Nat) (h:i < l.length):(intCells l)[i]? = some (.int .i64 l[i]):=by simp [intCells,h]
theorem infoInt:(Tryz.prog.info? 3).map (fun i => (i.zero,i.size,i.bytes))=some (some (.int .i64 0),1,8):=by kernel_rfl
def IsL (w:World) (a:Option Addr) (xs:List Int):Prop :=
  xs=[]∨∃ b off,a=some ⟨b,off,none⟩∧∀ i (h:i < xs.length),w.cell? ⟨b,off + i,none⟩=some (.int .i64 xs[i])
theorem IsL.keep {w w':World} {a:Option Addr} {xs:List Int} (h:IsL w a xs) (hk:∀ b,some b=(a.map (·.block))→w'.heap[b]? = w.heap[b]?):IsL w' a xs:=by
  rcases h with h | ⟨b,off,rfl,h⟩
  · exact .inl h
  · exact .inr ⟨b,off,rfl,fun i hi => by rw [World.cell?_of_block (hk b rfl)];exact h i hi⟩
theorem IsL.below {w w':World} {a:Option Addr} {xs:List Int} (h:IsL w a xs) (hb:Below w.heap.size w w'):IsL w' a xs:=by
  rcases h with h | ⟨b,off,rfl,h⟩
  · exact .inl h
  · exact .inr ⟨b,off,rfl,fun i hi => (hb.cell (p:=⟨b,off + i,none⟩) (World.block_lt_of_cell? w ⟨b,off + i,none⟩ (h i hi))).trans (h i hi)⟩
theorem IsL.take {w:World} {a:Option Addr} {xs:List Int} (h:IsL w a xs) (n:Nat):IsL w a (xs.take n):=by
  rcases h with rfl | ⟨b,off,rfl,h⟩
  · exact .inl (by simp)
  · refine .inr ⟨b,off,rfl,fun i hi => ?_⟩
    rw [List.length_take] at hi
    rw [h i (by omega),List.getElem_take]
def OwnI (base:Nat) (w:World) (a:Option Addr) (cap:Nat) (xs:List Int):Prop:=w.ownsRow base 3 1 (.slice a xs.length cap) xs.length (intCells xs)
theorem addr_off (b off i:Nat):(⟨b,off,none⟩:Addr).add i=⟨b,off + i,none⟩:=by
  unfold Addr.add
  by_cases h0:i=0
  · simp [h0]
  · simp [h0]
theorem OwnI.isL {base:Nat} {w:World} {a:Option Addr} {cap:Nat} {xs:List Int} (h:OwnI base w a cap xs):IsL w a xs:=by
  by_cases c:xs=[]
  · exact .inl c
  · rcases h.2 with ⟨hv,h0⟩ | ⟨g,cp,cur,hv,hb,rest⟩
    · exact absurd (List.eq_nil_of_length_eq_zero h0) c
    · obtain rfl:a=some ⟨g,0,none⟩:=by injection hv
      refine .inr ⟨g,0,rfl,fun i hi => ?_⟩
      have:=h.cells (g:=g) rfl i _ (intCells_get xs i hi)
      rwa [addr_off] at this
theorem OwnI.same {base:Nat} {w w':World} {a:Option Addr} {cap:Nat} {xs:List Int} (h:OwnI base w a cap xs) (hs:∀ g,base≤g→g < w.heap.size→w'.heap[g]? = w.heap[g]?):OwnI base w' a cap xs:=own_same h hs
theorem OwnI.below {base:Nat} {w w':World} {a:Option Addr} {cap:Nat} {xs:List Int} (h:OwnI base w a cap xs) (hb:Below w.heap.size w w'):OwnI base w' a cap xs:=own_same h fun g _ hg => hb.block g hg
theorem OwnI.lower {base base':Nat} {w:World} {a:Option Addr} {cap:Nat} {xs:List Int} (h:OwnI base w a cap xs) (hb:base'≤base):OwnI base' w a cap xs:=by
  refine ⟨h.1,?_⟩
  rcases h.2 with hn | ⟨g,cp,cur,hv,hg,rest⟩
  · exact .inl hn
  · exact .inr ⟨g,cp,cur,hv,Nat.le_trans hb hg,rest⟩
theorem OwnI.nil (base:Nat) (w:World):OwnI base w none 0 []:=World.ownsRow_nil _ _ _ _
theorem OwnI.block {base:Nat} {w:World} {a:Option Addr} {cap:Nat} {xs:List Int} (h:OwnI base w a cap xs):(a=none∧cap=0∧xs=[])∨∃ g,a=some ⟨g,0,none⟩∧base≤g∧g < w.heap.size∧xs.length≤cap∧∃ cur,w.heap[g]? = some (.cells cur 3 (0,0))∧cur.size=cap:=by
  rcases h.2 with ⟨hv,h0⟩ | ⟨g,cp,cur,hv,hb,hg,hn,hm,hs,ht⟩
  · injection hv with h1 h2 h3
    exact .inl ⟨h1,h3,List.eq_nil_of_length_eq_zero h0⟩
  · injection hv with h1 h2 h3
    subst h1 h3
    exact .inr ⟨g,rfl,hb,(Array.getElem?_eq_some_iff.1 hg).1,hn,cur,hg,by rw [hs,Nat.mul_one]⟩
theorem bel_drew {B:Nat} {a w:World} (h:Below B a w) (n:Nat):Below B a (w.drewN n):=⟨h.os,h.tape,h.output,h.size,h.block⟩
theorem own_form {w:World} {base e size n:Nat} {v:Value} {xs:List Value} (h:w.ownsRow base e size v n xs):∃ a cap,v=.slice a n cap:=by
  rcases h.2 with ⟨rfl,rfl⟩ | ⟨g,cap,cur,rfl,_⟩
  · exact ⟨none,0,rfl⟩
  · exact ⟨_,cap,rfl⟩
theorem int_one (xs:List Int):∀ u ∈ intCells xs,u.oneCell'=true:=by
  intro u hu
  simp only [intCells,List.mem_map] at hu
  obtain ⟨z,_,rfl⟩:=hu
  rfl
end Go.Proofs.YtfbmlefhjoblbaaGreat
namespace Go.Proofs.YtfbmlefhjoblbaaGreat
open Go.Conc Go.RowKit
set_option linter.unusedVariables false
set_option linter.unusedSimpArgs false
end Go.Proofs.YtfbmlefhjoblbaaGreat
namespace Go.Proofs.YtfbmlefhjoblbaaGreat
open Go.RowKit
set_option linter.unusedVariables false
theorem OwnI.alloc {base:Nat} {w:World} {ad:Option Addr} {cap:Nat} {xs:List Int} (h:OwnI base w ad cap xs) (ob:Obj):OwnI base (w.alloc ob) ad cap xs:=own_same h fun k _ hk => Below.heap_alloc w ob k hk
end Go.Proofs.YtfbmlefhjoblbaaGreat
namespace Go.Proofs.YtfbmlefhjoblbaaGreat
open Go.ChangeShapes Go.WideShapes Go.ChangeAt Go.RowKit
set_option linter.unusedVariables false
end Go.Proofs.YtfbmlefhjoblbaaGreat
