/- Spaces and remarks left out: a claim is at most so large. -/
import Derived.Test.YtfbmlefhjoblbaaGreatFirstGz
import Derived.Deep.QuietTactic
import Derived.BigQuiet
import Derived.Test.YtfbmlefhjoblbaaGreatNPFileGetsGz6
namespace Go.Proofs.YtfbmlefhjoblbaaGreat
open Go.RowKit
set_option linter.unusedVariables false
theorem next_of' (s:ByteArray) (i:Nat) (z:Int) (hz:z=i) (hs:s.size≤9223372036854775807) (hi:i≤9223372036854775807) (a:Int) (ha:nxt s.data.toList i=a) (w:World):Calls Tryz.prog 150 #[.string s,.int .i64 z] w fun e w' => e=.returned (.int .i64 a)∧w=w':=by
  subst hz ha
  exact next_any s i hs hi w
set_option maxRecDepth 100000 in
set_option maxHeartbeats 4000000 in
theorem rrune_two (s:ByteArray) (i:Nat) (h:i < s.size) (hs:s.size≤9223372036854775000) (h1:194≤(s[i].toNat:Int)) (h2:(s[i].toNat:Int) < 224) (w:World) :
    Calls Tryz.prog 116 #[.string s,.int .i64 i] w fun e w' => e=.returned (.tuple #[.int .i64 (rr s.data.toList i).1,.int .i64 (rr s.data.toList i).2])∧w=w':=by
  have hl:i < s.data.toList.length:=by simpa using h
  have hc:lead s.data.toList i=(s[i].toNat:Int):=lead_some hl
  have ha0:=nxt_lo s.data.toList (i + 1)
  have ha1:=nxt_hi s.data.toList (i + 1)
  have hb0:=nxt_lo s.data.toList (i + 2)
  have hb1:=nxt_hi s.data.toList (i + 2)
  have hd0:=nxt_lo s.data.toList (i + 3)
  have hd1:=nxt_hi s.data.toList (i + 3)
  have T1:=Lib.hid (next_of' s (i + 1) ((i:Int) + 1) (by omega) (by omega) (by omega) _ rfl)
  have T2:=Lib.hid (next_of' s (i + 2) ((i:Int) + 2) (by omega) (by omega) (by omega) _ rfl)
  have T3:=Lib.hid (next_of' s (i + 3) ((i:Int) + 3) (by omega) (by omega) (by omega) _ rfl)
  unfold rr
  rw [hc]
  clear hc
  generalize nxt s.data.toList (i + 1)=a at *
  generalize nxt s.data.toList (i + 2)=b at *
  generalize nxt s.data.toList (i + 3)=d at *
  by_cases g1:0≤a
  · skip
    have e:run4 (s[i].toNat:Int) a b d=(((s[i].toNat:Int) - 192) * 64 + a,2):=by
      unfold run4
      repeat' split
      all_goals first | rfl | (exfalso;omega)
    rw [e];clear e
    go_enter Tryz.func116,Tryz.ntmps116
    go_wp2_with (go_at_call 150;first | ((with_reducible refine (T1.out _).mono ?_);rintro e w' ⟨rfl,rfl⟩) | ((with_reducible refine (T2.out _).mono ?_);rintro e w' ⟨rfl,rfl⟩) | ((with_reducible refine (T3.out _).mono ?_);rintro e w' ⟨rfl,rfl⟩))
    go_ret2
    exact ⟨rfl,rfl⟩
  · skip
    have e:run4 (s[i].toNat:Int) a b d=(0,0):=by
      unfold run4
      repeat' split
      all_goals first | rfl | (exfalso;omega)
    rw [e];clear e
    go_enter Tryz.func116,Tryz.ntmps116
    go_wp2_with (go_at_call 150;first | ((with_reducible refine (T1.out _).mono ?_);rintro e w' ⟨rfl,rfl⟩) | ((with_reducible refine (T2.out _).mono ?_);rintro e w' ⟨rfl,rfl⟩) | ((with_reducible refine (T3.out _).mono ?_);rintro e w' ⟨rfl,rfl⟩))
    go_ret2
    exact ⟨rfl,rfl⟩
set_option maxRecDepth 100000 in
set_option maxHeartbeats 4000000 in
theorem rrune_three (s:ByteArray) (i:Nat) (h:i < s.size) (hs:s.size≤9223372036854775000) (h1:224≤(s[i].toNat:Int)) (h2:(s[i].toNat:Int) < 240) (w:World) :
    Calls Tryz.prog 116 #[.string s,.int .i64 i] w fun e w' => e=.returned (.tuple #[.int .i64 (rr s.data.toList i).1,.int .i64 (rr s.data.toList i).2])∧w=w':=by
  have hl:i < s.data.toList.length:=by simpa using h
  have hc:lead s.data.toList i=(s[i].toNat:Int):=lead_some hl
  have ha0:=nxt_lo s.data.toList (i + 1)
  have ha1:=nxt_hi s.data.toList (i + 1)
  have hb0:=nxt_lo s.data.toList (i + 2)
  have hb1:=nxt_hi s.data.toList (i + 2)
  have hd0:=nxt_lo s.data.toList (i + 3)
  have hd1:=nxt_hi s.data.toList (i + 3)
  have T1:=Lib.hid (next_of' s (i + 1) ((i:Int) + 1) (by omega) (by omega) (by omega) _ rfl)
  have T2:=Lib.hid (next_of' s (i + 2) ((i:Int) + 2) (by omega) (by omega) (by omega) _ rfl)
  have T3:=Lib.hid (next_of' s (i + 3) ((i:Int) + 3) (by omega) (by omega) (by omega) _ rfl)
  unfold rr
  rw [hc]
  clear hc
  generalize nxt s.data.toList (i + 1)=a at *
  generalize nxt s.data.toList (i + 2)=b at *
  generalize nxt s.data.toList (i + 3)=d at *
  by_cases g1:0≤a
  · skip
    by_cases g2:0≤b
    · skip
      by_cases g3:2048≤((s[i].toNat:Int) - 224) * 4096 + a * 64 + b
      · skip
        by_cases g4:((s[i].toNat:Int) - 224) * 4096 + a * 64 + b < 55296
        · skip
          have e:run4 (s[i].toNat:Int) a b d=(((s[i].toNat:Int) - 224) * 4096 + a * 64 + b,3):=by
            unfold run4
            repeat' split
            all_goals first | rfl | (exfalso;omega)
          rw [e];clear e
          go_enter Tryz.func116,Tryz.ntmps116
          go_wp2_with (go_at_call 150;first | ((with_reducible refine (T1.out _).mono ?_);rintro e w' ⟨rfl,rfl⟩) | ((with_reducible refine (T2.out _).mono ?_);rintro e w' ⟨rfl,rfl⟩) | ((with_reducible refine (T3.out _).mono ?_);rintro e w' ⟨rfl,rfl⟩))
          go_ret2
          exact ⟨rfl,rfl⟩
        · skip
          by_cases g5:57343 < ((s[i].toNat:Int) - 224) * 4096 + a * 64 + b
          · skip
            have e:run4 (s[i].toNat:Int) a b d=(((s[i].toNat:Int) - 224) * 4096 + a * 64 + b,3):=by
              unfold run4
              repeat' split
              all_goals first | rfl | (exfalso;omega)
            rw [e];clear e
            go_enter Tryz.func116,Tryz.ntmps116
            go_wp2_with (go_at_call 150;first | ((with_reducible refine (T1.out _).mono ?_);rintro e w' ⟨rfl,rfl⟩) | ((with_reducible refine (T2.out _).mono ?_);rintro e w' ⟨rfl,rfl⟩) | ((with_reducible refine (T3.out _).mono ?_);rintro e w' ⟨rfl,rfl⟩))
            go_ret2
            exact ⟨rfl,rfl⟩
          · skip
            have e:run4 (s[i].toNat:Int) a b d=(0,0):=by
              unfold run4
              repeat' split
              all_goals first | rfl | (exfalso;omega)
            rw [e];clear e
            go_enter Tryz.func116,Tryz.ntmps116
            go_wp2_with (go_at_call 150;first | ((with_reducible refine (T1.out _).mono ?_);rintro e w' ⟨rfl,rfl⟩) | ((with_reducible refine (T2.out _).mono ?_);rintro e w' ⟨rfl,rfl⟩) | ((with_reducible refine (T3.out _).mono ?_);rintro e w' ⟨rfl,rfl⟩))
            go_ret2
            exact ⟨rfl,rfl⟩
      · skip
        have e:run4 (s[i].toNat:Int) a b d=(0,0):=by
          unfold run4
          repeat' split
          all_goals first | rfl | (exfalso;omega)
        rw [e];clear e
        go_enter Tryz.func116,Tryz.ntmps116
        go_wp2_with (go_at_call 150;first | ((with_reducible refine (T1.out _).mono ?_);rintro e w' ⟨rfl,rfl⟩) | ((with_reducible refine (T2.out _).mono ?_);rintro e w' ⟨rfl,rfl⟩) | ((with_reducible refine (T3.out _).mono ?_);rintro e w' ⟨rfl,rfl⟩))
        go_ret2
        exact ⟨rfl,rfl⟩
    · skip
      have e:run4 (s[i].toNat:Int) a b d=(0,0):=by
        unfold run4
        repeat' split
        all_goals first | rfl | (exfalso;omega)
      rw [e];clear e
      go_enter Tryz.func116,Tryz.ntmps116
      go_wp2_with (go_at_call 150;first | ((with_reducible refine (T1.out _).mono ?_);rintro e w' ⟨rfl,rfl⟩) | ((with_reducible refine (T2.out _).mono ?_);rintro e w' ⟨rfl,rfl⟩) | ((with_reducible refine (T3.out _).mono ?_);rintro e w' ⟨rfl,rfl⟩))
      go_ret2
      exact ⟨rfl,rfl⟩
  · skip
    have e:run4 (s[i].toNat:Int) a b d=(0,0):=by
      unfold run4
      repeat' split
      all_goals first | rfl | (exfalso;omega)
    rw [e];clear e
    go_enter Tryz.func116,Tryz.ntmps116
    go_wp2_with (go_at_call 150;first | ((with_reducible refine (T1.out _).mono ?_);rintro e w' ⟨rfl,rfl⟩) | ((with_reducible refine (T2.out _).mono ?_);rintro e w' ⟨rfl,rfl⟩) | ((with_reducible refine (T3.out _).mono ?_);rintro e w' ⟨rfl,rfl⟩))
    go_ret2
    exact ⟨rfl,rfl⟩
set_option maxRecDepth 100000 in
set_option maxHeartbeats 4000000 in
theorem rrune_four (s:ByteArray) (i:Nat) (h:i < s.size) (hs:s.size≤9223372036854775000) (h1:240≤(s[i].toNat:Int)) (h2:(s[i].toNat:Int)≤244) (w:World) :
    Calls Tryz.prog 116 #[.string s,.int .i64 i] w fun e w' => e=.returned (.tuple #[.int .i64 (rr s.data.toList i).1,.int .i64 (rr s.data.toList i).2])∧w=w':=by
  have hl:i < s.data.toList.length:=by simpa using h
  have hc:lead s.data.toList i=(s[i].toNat:Int):=lead_some hl
  have ha0:=nxt_lo s.data.toList (i + 1)
  have ha1:=nxt_hi s.data.toList (i + 1)
  have hb0:=nxt_lo s.data.toList (i + 2)
  have hb1:=nxt_hi s.data.toList (i + 2)
  have hd0:=nxt_lo s.data.toList (i + 3)
  have hd1:=nxt_hi s.data.toList (i + 3)
  have T1:=Lib.hid (next_of' s (i + 1) ((i:Int) + 1) (by omega) (by omega) (by omega) _ rfl)
  have T2:=Lib.hid (next_of' s (i + 2) ((i:Int) + 2) (by omega) (by omega) (by omega) _ rfl)
  have T3:=Lib.hid (next_of' s (i + 3) ((i:Int) + 3) (by omega) (by omega) (by omega) _ rfl)
  unfold rr
  rw [hc]
  clear hc
  generalize nxt s.data.toList (i + 1)=a at *
  generalize nxt s.data.toList (i + 2)=b at *
  generalize nxt s.data.toList (i + 3)=d at *
  by_cases g1:0≤a
  · skip
    by_cases g2:0≤b
    · skip
      by_cases g3:0≤d
      · skip
        by_cases g4:65536≤((s[i].toNat:Int) - 240) * 262144 + a * 4096 + b * 64 + d
        · skip
          by_cases g5:((s[i].toNat:Int) - 240) * 262144 + a * 4096 + b * 64 + d≤1114111
          · skip
            have e:run4 (s[i].toNat:Int) a b d=(((s[i].toNat:Int) - 240) * 262144 + a * 4096 + b * 64 + d,4):=by
              unfold run4
              repeat' split
              all_goals first | rfl | (exfalso;omega)
            rw [e];clear e
            go_enter Tryz.func116,Tryz.ntmps116
            go_wp2_with (go_at_call 150;first | ((with_reducible refine (T1.out _).mono ?_);rintro e w' ⟨rfl,rfl⟩) | ((with_reducible refine (T2.out _).mono ?_);rintro e w' ⟨rfl,rfl⟩) | ((with_reducible refine (T3.out _).mono ?_);rintro e w' ⟨rfl,rfl⟩))
            go_ret2
            exact ⟨rfl,rfl⟩
          · skip
            have e:run4 (s[i].toNat:Int) a b d=(0,0):=by
              unfold run4
              repeat' split
              all_goals first | rfl | (exfalso;omega)
            rw [e];clear e
            go_enter Tryz.func116,Tryz.ntmps116
            go_wp2_with (go_at_call 150;first | ((with_reducible refine (T1.out _).mono ?_);rintro e w' ⟨rfl,rfl⟩) | ((with_reducible refine (T2.out _).mono ?_);rintro e w' ⟨rfl,rfl⟩) | ((with_reducible refine (T3.out _).mono ?_);rintro e w' ⟨rfl,rfl⟩))
            go_ret2
            exact ⟨rfl,rfl⟩
        · skip
          have e:run4 (s[i].toNat:Int) a b d=(0,0):=by
            unfold run4
            repeat' split
            all_goals first | rfl | (exfalso;omega)
          rw [e];clear e
          go_enter Tryz.func116,Tryz.ntmps116
          go_wp2_with (go_at_call 150;first | ((with_reducible refine (T1.out _).mono ?_);rintro e w' ⟨rfl,rfl⟩) | ((with_reducible refine (T2.out _).mono ?_);rintro e w' ⟨rfl,rfl⟩) | ((with_reducible refine (T3.out _).mono ?_);rintro e w' ⟨rfl,rfl⟩))
          go_ret2
          exact ⟨rfl,rfl⟩
      · skip
        have e:run4 (s[i].toNat:Int) a b d=(0,0):=by
          unfold run4
          repeat' split
          all_goals first | rfl | (exfalso;omega)
        rw [e];clear e
        go_enter Tryz.func116,Tryz.ntmps116
        go_wp2_with (go_at_call 150;first | ((with_reducible refine (T1.out _).mono ?_);rintro e w' ⟨rfl,rfl⟩) | ((with_reducible refine (T2.out _).mono ?_);rintro e w' ⟨rfl,rfl⟩) | ((with_reducible refine (T3.out _).mono ?_);rintro e w' ⟨rfl,rfl⟩))
        go_ret2
        exact ⟨rfl,rfl⟩
    · skip
      have e:run4 (s[i].toNat:Int) a b d=(0,0):=by
        unfold run4
        repeat' split
        all_goals first | rfl | (exfalso;omega)
      rw [e];clear e
      go_enter Tryz.func116,Tryz.ntmps116
      go_wp2_with (go_at_call 150;first | ((with_reducible refine (T1.out _).mono ?_);rintro e w' ⟨rfl,rfl⟩) | ((with_reducible refine (T2.out _).mono ?_);rintro e w' ⟨rfl,rfl⟩) | ((with_reducible refine (T3.out _).mono ?_);rintro e w' ⟨rfl,rfl⟩))
      go_ret2
      exact ⟨rfl,rfl⟩
  · skip
    have e:run4 (s[i].toNat:Int) a b d=(0,0):=by
      unfold run4
      repeat' split
      all_goals first | rfl | (exfalso;omega)
    rw [e];clear e
    go_enter Tryz.func116,Tryz.ntmps116
    go_wp2_with (go_at_call 150;first | ((with_reducible refine (T1.out _).mono ?_);rintro e w' ⟨rfl,rfl⟩) | ((with_reducible refine (T2.out _).mono ?_);rintro e w' ⟨rfl,rfl⟩) | ((with_reducible refine (T3.out _).mono ?_);rintro e w' ⟨rfl,rfl⟩))
    go_ret2
    exact ⟨rfl,rfl⟩
end Go.Proofs.YtfbmlefhjoblbaaGreat
namespace Go.Proofs.YtfbmlefhjoblbaaGreat
open Go.RowKit
set_option linter.unusedVariables false
set_option maxRecDepth 100000 in
theorem rrune_low (s:ByteArray) (i:Nat) (h:i < s.size) (hs:s.size≤9223372036854775000) (h1:0≤(s[i].toNat:Int)) (h2:(s[i].toNat:Int) < 128) (w:World) :
    Calls Tryz.prog 116 #[.string s,.int .i64 i] w fun e w' => e=.returned (.tuple #[.int .i64 (rr s.data.toList i).1,.int .i64 (rr s.data.toList i).2])∧w=w':=by
  have hl:i < s.data.toList.length:=by simpa using h
  have hc:lead s.data.toList i=(s[i].toNat:Int):=lead_some hl
  have e:rr s.data.toList i=((s[i].toNat:Int),1):=by unfold rr;rw [hc];unfold run4;rw [if_neg (by omega),if_pos (by omega)]
  rw [e];clear e hc
  go_enter Tryz.func116,Tryz.ntmps116
  go_wp2_with fail
  go_ret2
  exact ⟨rfl,rfl⟩
set_option maxRecDepth 100000 in
theorem rrune_mid (s:ByteArray) (i:Nat) (h:i < s.size) (hs:s.size≤9223372036854775000) (h1:128≤(s[i].toNat:Int)) (h2:(s[i].toNat:Int) < 194) (w:World) :
    Calls Tryz.prog 116 #[.string s,.int .i64 i] w fun e w' => e=.returned (.tuple #[.int .i64 (rr s.data.toList i).1,.int .i64 (rr s.data.toList i).2])∧w=w':=by
  have hl:i < s.data.toList.length:=by simpa using h
  have hc:lead s.data.toList i=(s[i].toNat:Int):=lead_some hl
  have e:rr s.data.toList i=(0,0):=by unfold rr;rw [hc];unfold run4;rw [if_neg (by omega),if_neg (by omega),if_pos (by omega)]
  rw [e];clear e hc
  have g1:decide ((s[i].toNat:Int) < 194)=true:=by simpa using h2
  go_enter Tryz.func116,Tryz.ntmps116
  go_wp2_with fail
  go_ret2
  exact ⟨rfl,rfl⟩
set_option maxRecDepth 100000 in
theorem rrune_high (s:ByteArray) (i:Nat) (h:i < s.size) (hs:s.size≤9223372036854775000) (h1:245≤(s[i].toNat:Int)) (h2:(s[i].toNat:Int) < 256) (w:World) :
    Calls Tryz.prog 116 #[.string s,.int .i64 i] w fun e w' => e=.returned (.tuple #[.int .i64 (rr s.data.toList i).1,.int .i64 (rr s.data.toList i).2])∧w=w':=by
  have hl:i < s.data.toList.length:=by simpa using h
  have hc:lead s.data.toList i=(s[i].toNat:Int):=lead_some hl
  have e:rr s.data.toList i=(0,0):=by unfold rr;rw [hc];unfold run4;rw [if_neg (by omega),if_neg (by omega),if_pos (by omega)]
  rw [e];clear e hc
  have g1:decide ((s[i].toNat:Int) < 194)=false:=by simp;omega
  have g2:decide (244 < (s[i].toNat:Int))=true:=by simp;omega
  go_enter Tryz.func116,Tryz.ntmps116
  go_wp2_with fail
  go_ret2
  exact ⟨rfl,rfl⟩
theorem rrune_in (s:ByteArray) (i:Nat) (h:i < s.size) (hs:s.size≤9223372036854775000) (w:World) :
    Calls Tryz.prog 116 #[.string s,.int .i64 i] w fun e w' => e=.returned (.tuple #[.int .i64 (rr s.data.toList i).1,.int .i64 (rr s.data.toList i).2])∧w=w':=by
  have:=s[i].toNat_lt
  by_cases c1:s[i].toNat < 128
  · exact rrune_low s i h hs (by omega) (by omega) w
  by_cases c2:s[i].toNat < 194
  · exact rrune_mid s i h hs (by omega) (by omega) w
  by_cases c3:244 < s[i].toNat
  · exact rrune_high s i h hs (by omega) (by omega) w
  by_cases c4:s[i].toNat < 224
  · exact rrune_two s i h hs (by omega) (by omega) w
  by_cases c5:s[i].toNat < 240
  · exact rrune_three s i h hs (by omega) (by omega) w
  · exact rrune_four s i h hs (by omega) (by omega) w
end Go.Proofs.YtfbmlefhjoblbaaGreat
namespace Go.Proofs.YtfbmlefhjoblbaaGreat
open Go.RowKit
set_option linter.unusedVariables false
set_option maxHeartbeats 1000000 in
theorem rfirst_any (s:ByteArray) (hs:s.size≤9223372036854775000) (w:World) :
    Calls Tryz.prog 84 #[.string s] w fun e w' => e=.returned (.int .i64 (first s.data.toList))∧w=w':=by
  have hlen:s.data.toList.length=s.size:=by simp
  have HL:=Lib.hid hlen
  clear hlen
  generalize hF:first s.data.toList=F
  have HF:=Lib.hid hF
  clear hF
  go_enter Tryz.func84,Tryz.ntmps84
  go_wp2
  go_loop [3] (fun i => ∃ k:Nat,k≤s.size∧i=.int .i64 k∧firstAt s.data.toList k=F) (fun i => s.size - (intOf i).toNat)
  case atStart => exact ⟨0,Nat.zero_le _,rfl,HF.out⟩
  case round =>
    obtain ⟨k,hk,rfl,hF⟩:=hrel
    by_cases hlt:k < s.size
    · have T:=Lib.hid (rrune_in s k hlt (by omega))
      have hl:k < s.data.toList.length:=by rw [HL.out];exact hlt
      have hle:=rr_le s.data.toList k
      have hin:=rr_in s.data.toList k
      have hstop:=@firstAt_stop s.data.toList k hl
      have hgo:=@firstAt_go s.data.toList k hl
      rw [HL.out] at hin
      clear hl
      generalize rr s.data.toList k=p at *
      obtain ⟨q1,q2⟩:=p
      simp only at hle hin hstop hgo T
      obtain ⟨m,rfl⟩:∃ m:Nat,q2=(m:Int):=⟨q2.toNat,by omega⟩
      by_cases h0:m=0
      · subst h0
        rw [hstop rfl] at hF
        subst hF
        clear hle hin hstop hgo
        go_wp2_with (go_at_call 116;refine (T.out _).mono ?_;rintro e w' ⟨rfl,rfl⟩)
        go_ret
        exact ⟨rfl,rfl⟩
      · have hin':=hin (by omega)
        rw [hgo (by omega)] at hF
        have HF2:=Lib.hid hF
        have gk:((m:Int) == 0)=false:=by simpa using h0
        clear hle hin hstop hgo hF
        go_wp2_with (go_at_call 116;refine (T.out _).mono ?_;rintro e w' ⟨rfl,rfl⟩)
        go_round
        case rel => exact ⟨k + m,by omega,by go_num,HF2.out⟩
        case measure => simp [intOf];omega
    · have e:firstAt s.data.toList k = -1:=firstAt_end (by rw [HL.out];exact hlt)
      rw [e] at hF
      subst hF
      clear e
      go_wp2
      go_ret
      exact ⟨rfl,rfl⟩
theorem rvalid_any (s:ByteArray) (hs:s.size≤9223372036854775000) (w:World) :
    Calls Tryz.prog 50 #[.string s] w fun e w' => e=.returned (.bool (decide (first s.data.toList = -1)))∧w=w':=by
  have T:=Lib.hid (rfirst_any s hs)
  have hr:=first_range s.data.toList
  generalize first s.data.toList=F at *
  by_cases h:F = -1
  · subst h
    clear hr
    go_enter Tryz.func50,Tryz.ntmps50
    go_wp2_with (go_at_call 84;refine (T.out _).mono ?_;rintro e w' ⟨rfl,rfl⟩)
    go_ret
    exact ⟨rfl,rfl⟩
  · have hp:0≤F:=by omega
    have gk:(F == -1)=false:=by simpa using h
    have e:decide (F = -1)=false:=by simpa using h
    have g2:decide (F < 0)=false:=by simpa using hp
    rw [e]
    clear hr e
    go_enter Tryz.func50,Tryz.ntmps50
    go_wp2_with (go_at_call 84;refine (T.out _).mono ?_;rintro e w' ⟨rfl,rfl⟩)
    go_ret
    exact ⟨rfl,rfl⟩
end Go.Proofs.YtfbmlefhjoblbaaGreat
