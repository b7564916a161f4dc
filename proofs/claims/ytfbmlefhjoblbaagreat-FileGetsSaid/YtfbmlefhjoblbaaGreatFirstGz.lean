/- Spaces and remarks left out: a claim is at most so large. -/
import Derived.Test.YtfbmlefhjoblbaaGreatNPFileGetsGz6
import Derived.Test.YtfbmlefhjoblbaaGreatNum
import Derived.WalkKit
import Derived.ProofKit
import Derived.Lib.Hide
import Derived.WalkLawsBesides
import Derived.WalkSpells
import Derived.Test.YtfbmlefhjoblbaaGreatProg
import Derived.Test.YtfbmlefhjoblbaaGreatBitsGz
namespace Go.Proofs.YtfbmlefhjoblbaaGreat
open Go.RowKit
set_option linter.unusedVariables false
theorem next_any (s:ByteArray) (i:Nat) (hs:s.size≤9223372036854775807) (hi:i≤9223372036854775807) (w:World):Calls Tryz.prog 150 #[.string s,.int .i64 i] w fun e w' => e=.returned (.int .i64 (nxt s.data.toList i))∧w=w':=by
  by_cases h:i < s.size
  · have hl:i < s.data.toList.length:=by simpa using h
    by_cases h1:s[i].toNat < 128
    · have e:nxt s.data.toList i = -1:=nxt_no hl (.inl h1)
      rw [e];clear e
      go_enter Tryz.func150,Tryz.ntmps150
      go_wp2
      go_ret
      exact ⟨rfl,rfl⟩
    by_cases h2:191 < s[i].toNat
    · have e:nxt s.data.toList i = -1:=nxt_no hl (.inr h2)
      rw [e];clear e
      go_enter Tryz.func150,Tryz.ntmps150
      go_wp2
      go_ret
      exact ⟨rfl,rfl⟩
    · have e:nxt s.data.toList i=(s[i].toNat:Int) - 128:=nxt_yes hl (by show 128≤s[i].toNat;omega) (by show s[i].toNat≤191;omega)
      rw [e];clear e
      go_enter Tryz.func150,Tryz.ntmps150
      go_wp2
      go_ret
      exact ⟨rfl,rfl⟩
  · have e:nxt s.data.toList i = -1:=nxt_none (by simp;omega)
    rw [e];clear e
    go_enter Tryz.func150,Tryz.ntmps150
    go_wp2
    go_ret
    exact ⟨rfl,rfl⟩
end Go.Proofs.YtfbmlefhjoblbaaGreat
namespace Go.Proofs.YtfbmlefhjoblbaaGreat
open Go.RowKit
set_option linter.unusedVariables false
set_option maxRecDepth 100000 in
theorem readLead_any (c:Nat) (hc:c≤255) (w:World):Calls Tryz.prog 175 #[.int .u8 c] w fun e w' => e=.returned (.tuple #[.int .i64 (rl c).1,.int .i64 (rl c).2])∧w=w':=by
  by_cases h1:c≤127
  · have e:rl c=((c:Int),1):=by unfold rl;rw [if_pos (by omega)]
    rw [e];clear e
    go_enter Tryz.func175,Tryz.ntmps175
    go_wp2
    go_ret2
    exact ⟨rfl,rfl⟩
  by_cases h2:c < 192
  · have e:rl c=(0,0):=by unfold rl;rw [if_neg (by omega),if_pos (by omega)]
    rw [e];clear e
    go_enter Tryz.func175,Tryz.ntmps175
    go_wp2
    go_ret2
    exact ⟨rfl,rfl⟩
  by_cases h3:c < 224
  · have e:rl c=((c:Int) - 192,2):=by unfold rl;rw [if_neg (by omega),if_neg (by omega),if_pos (by omega)]
    rw [e];clear e
    go_enter Tryz.func175,Tryz.ntmps175
    go_wp2
    go_ret2
    exact ⟨rfl,rfl⟩
  by_cases h4:c < 240
  · have e:rl c=((c:Int) - 224,3):=by unfold rl;rw [if_neg (by omega),if_neg (by omega),if_neg (by omega),if_pos (by omega)]
    rw [e];clear e
    go_enter Tryz.func175,Tryz.ntmps175
    go_wp2
    go_ret2
    exact ⟨rfl,rfl⟩
  by_cases h5:c < 248
  · have e:rl c=((c:Int) - 240,4):=by unfold rl;rw [if_neg (by omega),if_neg (by omega),if_neg (by omega),if_neg (by omega),if_pos (by omega)]
    rw [e];clear e
    go_enter Tryz.func175,Tryz.ntmps175
    go_wp2
    go_ret2
    exact ⟨rfl,rfl⟩
  · have e:rl c=(0,0):=by unfold rl;rw [if_neg (by omega),if_neg (by omega),if_neg (by omega),if_neg (by omega),if_neg (by omega)]
    rw [e];clear e
    go_enter Tryz.func175,Tryz.ntmps175
    go_wp2
    go_ret2
    exact ⟨rfl,rfl⟩
theorem sizeOf_any (r:Int) (w:World):Calls Tryz.prog 176 #[.int .i64 r] w fun e w' => e=.returned (.int .i64 (sz r))∧w=w':=by
  by_cases h0:r < 0
  · have e:sz r=0:=by unfold sz;rw [if_pos (by omega)]
    rw [e];clear e
    go_enter Tryz.func176,Tryz.ntmps176
    go_wp2
    go_ret
    exact ⟨rfl,rfl⟩
  by_cases h1:1114111 < r
  · have e:sz r=0:=by unfold sz;rw [if_pos (by omega)]
    rw [e];clear e
    go_enter Tryz.func176,Tryz.ntmps176
    go_wp2
    go_ret
    exact ⟨rfl,rfl⟩
  by_cases h2:55296≤r
  · by_cases h3:r≤57343
    · have e:sz r=0:=by unfold sz;rw [if_neg (by omega),if_pos (by omega)]
      rw [e];clear e
      go_enter Tryz.func176,Tryz.ntmps176
      go_wp2
      go_ret
      exact ⟨rfl,rfl⟩
    by_cases h4:r≤65535
    · have e:sz r=3:=by unfold sz;rw [if_neg (by omega),if_neg (by omega),if_neg (by omega),if_neg (by omega),if_pos (by omega)]
      rw [e];clear e
      go_enter Tryz.func176,Tryz.ntmps176
      go_wp2
      go_ret
      exact ⟨rfl,rfl⟩
    · have e:sz r=4:=by unfold sz;rw [if_neg (by omega),if_neg (by omega),if_neg (by omega),if_neg (by omega),if_neg (by omega)]
      rw [e];clear e
      go_enter Tryz.func176,Tryz.ntmps176
      go_wp2
      go_ret
      exact ⟨rfl,rfl⟩
  by_cases h3:r≤127
  · have e:sz r=1:=by unfold sz;rw [if_neg (by omega),if_neg (by omega),if_pos (by omega)]
    rw [e];clear e
    go_enter Tryz.func176,Tryz.ntmps176
    go_wp2
    go_ret
    exact ⟨rfl,rfl⟩
  by_cases h4:r≤2047
  · have e:sz r=2:=by unfold sz;rw [if_neg (by omega),if_neg (by omega),if_neg (by omega),if_pos (by omega)]
    rw [e];clear e
    go_enter Tryz.func176,Tryz.ntmps176
    go_wp2
    go_ret
    exact ⟨rfl,rfl⟩
  · have e:sz r=3:=by unfold sz;rw [if_neg (by omega),if_neg (by omega),if_neg (by omega),if_neg (by omega),if_pos (by omega)]
    rw [e];clear e
    go_enter Tryz.func176,Tryz.ntmps176
    go_wp2
    go_ret
    exact ⟨rfl,rfl⟩
end Go.Proofs.YtfbmlefhjoblbaaGreat
namespace Go.Proofs.YtfbmlefhjoblbaaGreat
open Go.RowKit
set_option linter.unusedVariables false
def Bd (k:Nat) (r:Int):Prop:=0≤r∧(k≤1→r < 128)∧(k≤2→r < 8192)∧(k≤3→r < 524288)∧(k≤4→r < 33554432)
theorem urune_in (s:ByteArray) (i:Nat) (h:i < s.size) (hs:s.size≤9223372036854775807) (w:World) :
    Calls Tryz.prog 171 #[.string s,.int .i64 i] w fun e w' => e=.returned (.tuple #[.int .i64 (rr s.data.toList i).1,.int .i64 (rr s.data.toList i).2])∧w=w':=by
  have hl:i < s.data.toList.length:=by simpa using h
  have hlen:s.data.toList.length=s.size:=by simp
  have hc:lead s.data.toList i=(s[i].toNat:Int):=lead_some hl
  have hc255:s[i].toNat≤255:=by have:=s[i].toNat_lt;omega
  have hR:=rl_range (lead s.data.toList i) (by rw [hc];omega) (lead_hi _ _)
  have hfin:=rr_fin s.data.toList i hl
  have hbad:=rr_bad s.data.toList i
  rw [hc] at hR hfin hbad
  have TL:=fun w => readLead_any s[i].toNat hc255 w
  clear hc
  generalize rl (s[i].toNat:Int)=p at *
  obtain ⟨r0,kz⟩:=p
  simp only at hR hfin hbad TL
  obtain ⟨hr0,hr1,hk0,hk4⟩:=hR
  obtain ⟨k,rfl⟩:∃ k:Nat,kz=(k:Int):=⟨kz.toNat,by omega⟩
  have TL':=Lib.hid TL
  clear TL
  by_cases k0:k=0
  · subst k0
    have e:rr s.data.toList i=(0,0):=hbad (.inl rfl)
    rw [e]
    clear e hbad hfin
    go_enter Tryz.func171,Tryz.ntmps171
    go_wp2_with (go_at_call 175;refine (TL'.out _).mono ?_;rintro e w' ⟨rfl,rfl⟩)
    go_ret2
    exact ⟨rfl,rfl⟩
  by_cases k1:(s.size:Int) - i < k
  · have e:rr s.data.toList i=(0,0):=hbad (.inr (.inl (by rw [hlen];exact k1)))
    rw [e]
    clear e hbad hfin
    go_enter Tryz.func171,Tryz.ntmps171
    go_wp2_with (go_at_call 175;refine (TL'.out _).mono ?_;rintro e w' ⟨rfl,rfl⟩)
    go_ret2
    exact ⟨rfl,rfl⟩
  have gk:((k:Int) == 0)=false:=by simpa using k0
  have HF:=Lib.hid hfin
  have HB:=Lib.hid hbad
  have HL:=Lib.hid hlen
  clear hfin hbad hlen
  generalize rr s.data.toList i=q at *
  obtain ⟨q1,q2⟩:=q
  go_enter Tryz.func171,Tryz.ntmps171
  go_wp2_with (go_at_call 175;refine (TL'.out _).mono ?_;rintro e w' ⟨rfl,rfl⟩)
  go_loop [6,8] (fun r j => ∃ (a:Nat) (x:Nat),1≤a∧a≤k∧j=.int .i64 a∧r=.int .i64 x∧acc s.data.toList i r0 a=x∧Good s.data.toList i a∧Bd a x) (fun _ j => k - (intOf j).toNat)
  case atStart =>
    obtain ⟨x,rfl⟩:∃ x:Nat,r0=(x:Int):=⟨r0.toNat,by omega⟩
    exact ⟨1,x,by omega,by omega,rfl,rfl,rfl,fun j h1 h2 => by omega,by unfold Bd;omega⟩
  case round =>
    obtain ⟨a,x,ha1,hak,rfl,rfl,hacc,hgood,hbd⟩:=hrel
    have HA:=Lib.hid hacc
    have HG:=Lib.hid hgood
    have HBd:=Lib.hid hbd
    clear hacc hgood hbd
    by_cases hlt:a < k
    · have hia:i + a < s.size:=by omega
      have hla:i + a < s.data.toList.length:=by simpa using hia
      have hb:=s[i + a].toNat_lt
      have hx:x < 524288:=by
        have:=HBd.out
        unfold Bd at this
        omega
      have e1:=u8_hi2 s[i + a].toNat (by omega)
      have e2:=u8_lo6 s[i + a].toNat (by omega)
      have e3:Hid (bits .or .i64 ((x:Int) * 64) ((s[i + a].toNat:Int) % 64)=((x * 64 + s[i + a].toNat % 64:Nat):Int)):=i64_or_join x (s[i + a].toNat % 64) (by omega) (by omega)
      by_cases hgo:s[i + a].toNat / 64=2
      · have HN:Hid (nxt s.data.toList (i + a)=((s[i + a].toNat % 64:Nat):Int)):=by
          unfold Hid
          rw [nxt_yes hla (by show 128≤s[i + a].toNat;omega) (by show s[i + a].toNat≤191;omega)]
          show (s[i + a].toNat:Int) - 128=_
          omega
        have HBd2:Hid (Bd (a + 1) ((x * 64 + s[i + a].toNat % 64:Nat):Int)):=by
          have:=HBd.out
          unfold Hid Bd at *
          omega
        go_wp2
        go_round
        case rel =>
          refine ⟨a + 1,x * 64 + s[i + a].toNat % 64,by omega,by omega,by go_num,congrArg (Value.int IntKind.i64) e3.out,?_,fun j h1 h2 => ?_,HBd2.out⟩
          · rw [acc_succ _ _ _ _ ha1,HA.out,HN.out];omega
          · by_cases hj:j=a
            · subst hj;rw [HN.out];omega
            · exact HG.out j h1 (by omega)
        case measure => simp [intOf];omega
      · have e:(q1,q2)=(0,0):=HB.out (.inr (.inr ⟨a,ha1,by omega,nxt_no hla (by show s[i + a].toNat < 128∨191 < s[i + a].toNat;omega)⟩))
        cases e
        go_wp2
        go_ret2
        exact ⟨rfl,rfl⟩
    · obtain rfl:a=k:=by omega
      have e:=HF.out a rfl k0 HG.out x HA.out
      unfold fin at e
      by_cases hz:sz (x:Int)=(a:Int)
      · rw [if_pos hz] at e
        cases e
        have hz':(sz (x:Int) == (a:Int))=true:=by simpa using hz
        clear hz
        have HZ:=Lib.hid hz'
        have hz2:(sz (x:Int) != (a:Int))=false:=by rw [bne,hz'];rfl
        clear hz'
        go_wp2_with (go_at_call 176;refine (sizeOf_any _ _).mono ?_;rintro e w' ⟨rfl,rfl⟩)
        go_ret2
        exact ⟨rfl,rfl⟩
      · rw [if_neg hz] at e
        cases e
        have hz':(sz (x:Int) == (a:Int))=false:=by simpa using hz
        clear hz
        have hz2:(sz (x:Int) != (a:Int))=true:=by rw [bne,hz'];rfl
        clear hz'
        go_wp2_with (go_at_call 176;refine (sizeOf_any _ _).mono ?_;rintro e w' ⟨rfl,rfl⟩)
        go_ret2
        exact ⟨rfl,rfl⟩
end Go.Proofs.YtfbmlefhjoblbaaGreat
namespace Go.Proofs.YtfbmlefhjoblbaaGreat
open Go.RowKit
set_option linter.unusedVariables false
set_option maxHeartbeats 1000000 in
theorem ufirst_any (s:ByteArray) (hs:s.size≤9223372036854775000) (w:World) :
    Calls Tryz.prog 164 #[.string s] w fun e w' => e=.returned (.int .i64 (first s.data.toList))∧w=w':=by
  have hlen:s.data.toList.length=s.size:=by simp
  have HL:=Lib.hid hlen
  clear hlen
  generalize hF:first s.data.toList=F
  have HF:=Lib.hid hF
  clear hF
  go_enter Tryz.func164,Tryz.ntmps164
  go_wp2
  go_loop [3] (fun i => ∃ k:Nat,k≤s.size∧i=.int .i64 k∧firstAt s.data.toList k=F) (fun i => s.size - (intOf i).toNat)
  case atStart => exact ⟨0,Nat.zero_le _,rfl,HF.out⟩
  case round =>
    obtain ⟨k,hk,rfl,hF⟩:=hrel
    by_cases hlt:k < s.size
    · have T:=Lib.hid (urune_in s k hlt (by omega))
      have hl:k < s.data.toList.length:=by rw [HL.out];exact hlt
      have hle:=rr_le s.data.toList k
      have hin:=rr_in s.data.toList k
      have hstop:=@firstAt_stop s.data.toList k hl
      have hgo:=@firstAt_go s.data.toList k hl
      rw [HL.out] at hin
      clear hl
      generalize rr s.data.toList k=p at *
      obtain ⟨q1,q2⟩:=p
      simp only at hle hin hstop hgo T
      obtain ⟨m,rfl⟩:∃ m:Nat,q2=(m:Int):=⟨q2.toNat,by omega⟩
      by_cases h0:m=0
      · subst h0
        rw [hstop rfl] at hF
        subst hF
        clear hle hin hstop hgo
        go_wp2_with (go_at_call 171;refine (T.out _).mono ?_;rintro e w' ⟨rfl,rfl⟩)
        go_ret
        exact ⟨rfl,rfl⟩
      · have hin':=hin (by omega)
        rw [hgo (by omega)] at hF
        have HF2:=Lib.hid hF
        have gk:((m:Int) == 0)=false:=by simpa using h0
        clear hle hin hstop hgo hF
        go_wp2_with (go_at_call 171;refine (T.out _).mono ?_;rintro e w' ⟨rfl,rfl⟩)
        go_round
        case rel => exact ⟨k + m,by omega,by go_num,HF2.out⟩
        case measure => simp [intOf];omega
    · have e:firstAt s.data.toList k = -1:=firstAt_end (by rw [HL.out];exact hlt)
      rw [e] at hF
      subst hF
      clear e
      go_wp2
      go_ret
      exact ⟨rfl,rfl⟩
theorem uvalid_any (s:ByteArray) (hs:s.size≤9223372036854775000) (w:World) :
    Calls Tryz.prog 140 #[.string s] w fun e w' => e=.returned (.bool (decide (first s.data.toList = -1)))∧w=w':=by
  have T:=Lib.hid (ufirst_any s hs)
  have hr:=first_range s.data.toList
  generalize first s.data.toList=F at *
  by_cases h:F = -1
  · subst h
    clear hr
    go_enter Tryz.func140,Tryz.ntmps140
    go_wp2_with (go_at_call 164;refine (T.out _).mono ?_;rintro e w' ⟨rfl,rfl⟩)
    go_ret
    exact ⟨rfl,rfl⟩
  · have hp:0≤F:=by omega
    have gk:(F == -1)=false:=by simpa using h
    have e:decide (F = -1)=false:=by simpa using h
    have g2:decide (F < 0)=false:=by simpa using hp
    rw [e]
    clear hr e
    go_enter Tryz.func140,Tryz.ntmps140
    go_wp2_with (go_at_call 164;refine (T.out _).mono ?_;rintro e w' ⟨rfl,rfl⟩)
    go_ret
    exact ⟨rfl,rfl⟩
end Go.Proofs.YtfbmlefhjoblbaaGreat
