/-
  No cell of these rows narrows 'for every input' (looked for: loops, veiled, ifaces, maps, wideKeys, modest, calm, conditions, laid).
  DERIVED. THE GIVEN ROWS OF THIS SEAT. 10 by the template 'for every input the law returns true; each argument reads behind the call as it read before'; 0 by the template 'total and deterministic' (their statements: YtfbmlefhjoblbaaGreatTotals.lean).
  GIVEN WITH THE SEED: the statements are not yours to turn. If you find one false, say at which input.
  Laid BY PROGRAM, IN A SANDBOX (cutbox-rows.mjs): the forced cells as the released guide's own fill.sh prints them over the translation 1235e4144899fedb… (all of the seat's roots in one cut). By AI agents, Wed Nov 11 2026. No macro, syntax, notation, axiom, sorry.
-/
import Derived.Test.YtfbmlefhjoblbaaGreatChecked
import GoSem.Claim
import GoSem.ClaimJoined
import GoSem.ClaimMapViews
import Derived.JoinedTies
import Derived.KernelRfl
namespace Go.Proofs.YtfbmlefhjoblbaaGreat
/- THE CELL 'sum', in the pinned program and in every row, IS THE sha256 OF THE DUMP (.gsa) THAT YtfbmlefhjoblbaaGreatProg.lean LOADS. Nothing in Lean hashes anything: it is a label: what it is worth is what the hold of that sum in a sandbox is worth. -/
noncomputable def Tryz.pinned : Pinned := { name := "ytfbmlefhjoblbaagreat", sum := "1235e4144899fedbb2489ebf17753cc42b8ade39e500034bbf5a97005ba6f946", checked := Tryz.checked }
namespace Rows
def none {H : Type} : Left H := { results := [], args := [] }

/-- 'boathouselaw9.VecPuts': WHATEVER THE INPUT: true; the input reads as it did. -/
def vecPutsSpec : ChangeSpec := { name := "vecPuts", fn := fun _ => fun
  | [d1, d2, d3, d4] => { results := [.lit (.bool true)], args := [d1, d2, d3, d4] }
  | _ => none }
def vecPutsRow : OpenClaim := { program := "ytfbmlefhjoblbaagreat", sum := "1235e4144899fedbb2489ebf17753cc42b8ade39e500034bbf5a97005ba6f946", func := "boathouse/boathouselaw9.VecPuts", spec := "vecPuts", inPlace := ["internal/abi.NoEscape", "internal/bytealg.MakeNoZero"], unfollowed := true, recurses := true, plainKeys := false, apart := false }
def VecPutsSaid : Prop := vecPutsRow.holds Tryz.pinned (OpenSpec.ofChange vecPutsSpec)

/-- ITS FALSE NEIGHBOUR: 'it returns false'. Refute it at one input. -/
def vecPutsWrong : ChangeSpec := { name := "vecPuts", fn := fun _ => fun
  | [d1, d2, d3, d4] => { results := [.lit (.bool false)], args := [d1, d2, d3, d4] }
  | _ => none }
def VecPutsWrongFalsely : Prop := vecPutsRow.holds Tryz.pinned (OpenSpec.ofChange vecPutsWrong)

/-- 'boathouselaw9.VecGets': WHATEVER THE INPUT: true; the input reads as it did. -/
def vecGetsSpec : ChangeSpec := { name := "vecGets", fn := fun _ => fun
  | [d1, d2, d3] => { results := [.lit (.bool true)], args := [d1, d2, d3] }
  | _ => none }
def vecGetsRow : OpenClaim := { program := "ytfbmlefhjoblbaagreat", sum := "1235e4144899fedbb2489ebf17753cc42b8ade39e500034bbf5a97005ba6f946", func := "boathouse/boathouselaw9.VecGets", spec := "vecGets", inPlace := ["internal/abi.NoEscape", "internal/bytealg.MakeNoZero"], unfollowed := true, recurses := true, plainKeys := false, apart := false }
def VecGetsSaid : Prop := vecGetsRow.holds Tryz.pinned (OpenSpec.ofChange vecGetsSpec)

/-- ITS FALSE NEIGHBOUR: 'it returns false'. Refute it at one input. -/
def vecGetsWrong : ChangeSpec := { name := "vecGets", fn := fun _ => fun
  | [d1, d2, d3] => { results := [.lit (.bool false)], args := [d1, d2, d3] }
  | _ => none }
def VecGetsWrongFalsely : Prop := vecGetsRow.holds Tryz.pinned (OpenSpec.ofChange vecGetsWrong)

/-- 'boathouselaw9.VecBack': WHATEVER THE INPUT: true; the input reads as it did. -/
def vecBackSpec : ChangeSpec := { name := "vecBack", fn := fun _ => fun
  | [d1, d2, d3] => { results := [.lit (.bool true)], args := [d1, d2, d3] }
  | _ => none }
def vecBackRow : OpenClaim := { program := "ytfbmlefhjoblbaagreat", sum := "1235e4144899fedbb2489ebf17753cc42b8ade39e500034bbf5a97005ba6f946", func := "boathouse/boathouselaw9.VecBack", spec := "vecBack", inPlace := ["internal/abi.NoEscape", "internal/bytealg.MakeNoZero"], unfollowed := true, recurses := true, plainKeys := false, apart := false }
def VecBackSaid : Prop := vecBackRow.holds Tryz.pinned (OpenSpec.ofChange vecBackSpec)

/-- ITS FALSE NEIGHBOUR: 'it returns false'. Refute it at one input. -/
def vecBackWrong : ChangeSpec := { name := "vecBack", fn := fun _ => fun
  | [d1, d2, d3] => { results := [.lit (.bool false)], args := [d1, d2, d3] }
  | _ => none }
def VecBackWrongFalsely : Prop := vecBackRow.holds Tryz.pinned (OpenSpec.ofChange vecBackWrong)

/-- 'boathouselaw9.VecOrder': WHATEVER THE INPUT: true; the input reads as it did. -/
def vecOrderSpec : ChangeSpec := { name := "vecOrder", fn := fun _ => fun
  | [d1, d2, d3] => { results := [.lit (.bool true)], args := [d1, d2, d3] }
  | _ => none }
def vecOrderRow : OpenClaim := { program := "ytfbmlefhjoblbaagreat", sum := "1235e4144899fedbb2489ebf17753cc42b8ade39e500034bbf5a97005ba6f946", func := "boathouse/boathouselaw9.VecOrder", spec := "vecOrder", inPlace := ["internal/abi.NoEscape", "internal/bytealg.MakeNoZero"], unfollowed := true, recurses := true, plainKeys := false, apart := false }
def VecOrderSaid : Prop := vecOrderRow.holds Tryz.pinned (OpenSpec.ofChange vecOrderSpec)

/-- ITS FALSE NEIGHBOUR: 'it returns false'. Refute it at one input. -/
def vecOrderWrong : ChangeSpec := { name := "vecOrder", fn := fun _ => fun
  | [d1, d2, d3] => { results := [.lit (.bool false)], args := [d1, d2, d3] }
  | _ => none }
def VecOrderWrongFalsely : Prop := vecOrderRow.holds Tryz.pinned (OpenSpec.ofChange vecOrderWrong)

/-- 'boathouselaw9.VecShort': WHATEVER THE INPUT: true; the input reads as it did. -/
def vecShortSpec : ChangeSpec := { name := "vecShort", fn := fun _ => fun
  | [d1, d2, d3] => { results := [.lit (.bool true)], args := [d1, d2, d3] }
  | _ => none }
def vecShortRow : OpenClaim := { program := "ytfbmlefhjoblbaagreat", sum := "1235e4144899fedbb2489ebf17753cc42b8ade39e500034bbf5a97005ba6f946", func := "boathouse/boathouselaw9.VecShort", spec := "vecShort", inPlace := ["internal/abi.NoEscape", "internal/bytealg.MakeNoZero"], unfollowed := true, recurses := true, plainKeys := false, apart := false }
def VecShortSaid : Prop := vecShortRow.holds Tryz.pinned (OpenSpec.ofChange vecShortSpec)

/-- ITS FALSE NEIGHBOUR: 'it returns false'. Refute it at one input. -/
def vecShortWrong : ChangeSpec := { name := "vecShort", fn := fun _ => fun
  | [d1, d2, d3] => { results := [.lit (.bool false)], args := [d1, d2, d3] }
  | _ => none }
def VecShortWrongFalsely : Prop := vecShortRow.holds Tryz.pinned (OpenSpec.ofChange vecShortWrong)

/-- 'boathouselaw9.VecLimits': WHATEVER THE INPUT: true; the input reads as it did. -/
def vecLimitsSpec : ChangeSpec := { name := "vecLimits", fn := fun _ => fun
  | [d1, d2, d3] => { results := [.lit (.bool true)], args := [d1, d2, d3] }
  | _ => none }
def vecLimitsRow : OpenClaim := { program := "ytfbmlefhjoblbaagreat", sum := "1235e4144899fedbb2489ebf17753cc42b8ade39e500034bbf5a97005ba6f946", func := "boathouse/boathouselaw9.VecLimits", spec := "vecLimits", inPlace := ["internal/abi.NoEscape", "internal/bytealg.MakeNoZero"], unfollowed := true, recurses := true, plainKeys := false, apart := false }
def VecLimitsSaid : Prop := vecLimitsRow.holds Tryz.pinned (OpenSpec.ofChange vecLimitsSpec)

/-- ITS FALSE NEIGHBOUR: 'it returns false'. Refute it at one input. -/
def vecLimitsWrong : ChangeSpec := { name := "vecLimits", fn := fun _ => fun
  | [d1, d2, d3] => { results := [.lit (.bool false)], args := [d1, d2, d3] }
  | _ => none }
def VecLimitsWrongFalsely : Prop := vecLimitsRow.holds Tryz.pinned (OpenSpec.ofChange vecLimitsWrong)

/-- 'boathouselaw11.FilePuts': WHATEVER THE INPUT: true; the input reads as it did. -/
def filePutsSpec : ChangeSpec := { name := "filePuts", fn := fun _ => fun
  | [d] => { results := [.lit (.bool true)], args := [d] }
  | _ => none }
def filePutsRow : OpenClaim := { program := "ytfbmlefhjoblbaagreat", sum := "1235e4144899fedbb2489ebf17753cc42b8ade39e500034bbf5a97005ba6f946", func := "boathouse/boathouselaw11.FilePuts", spec := "filePuts", inPlace := ["internal/abi.NoEscape", "internal/bytealg.MakeNoZero"], unfollowed := true, recurses := true, plainKeys := false, apart := false }
def FilePutsSaid : Prop := filePutsRow.holds Tryz.pinned (OpenSpec.ofChange filePutsSpec)

/-- ITS FALSE NEIGHBOUR: 'it returns false'. Refute it at one input. -/
def filePutsWrong : ChangeSpec := { name := "filePuts", fn := fun _ => fun
  | [d] => { results := [.lit (.bool false)], args := [d] }
  | _ => none }
def FilePutsWrongFalsely : Prop := filePutsRow.holds Tryz.pinned (OpenSpec.ofChange filePutsWrong)

/-- 'boathouselaw11.FileGets': WHATEVER THE INPUT: true; the input reads as it did. -/
def fileGetsSpec : ChangeSpec := { name := "fileGets", fn := fun _ => fun
  | [d1, d2] => { results := [.lit (.bool true)], args := [d1, d2] }
  | _ => none }
def fileGetsRow : OpenClaim := { program := "ytfbmlefhjoblbaagreat", sum := "1235e4144899fedbb2489ebf17753cc42b8ade39e500034bbf5a97005ba6f946", func := "boathouse/boathouselaw11.FileGets", spec := "fileGets", inPlace := ["internal/abi.NoEscape", "internal/bytealg.MakeNoZero"], unfollowed := true, recurses := true, plainKeys := false, apart := false }
def FileGetsSaid : Prop := fileGetsRow.holds Tryz.pinned (OpenSpec.ofChange fileGetsSpec)

/-- ITS FALSE NEIGHBOUR: 'it returns false'. Refute it at one input. -/
def fileGetsWrong : ChangeSpec := { name := "fileGets", fn := fun _ => fun
  | [d1, d2] => { results := [.lit (.bool false)], args := [d1, d2] }
  | _ => none }
def FileGetsWrongFalsely : Prop := fileGetsRow.holds Tryz.pinned (OpenSpec.ofChange fileGetsWrong)

/-- 'boathouselaw11.FileBack': WHATEVER THE INPUT: true; the input reads as it did. -/
def fileBackSpec : ChangeSpec := { name := "fileBack", fn := fun _ => fun
  | [d1, d2, d3, d4] => { results := [.lit (.bool true)], args := [d1, d2, d3, d4] }
  | _ => none }
def fileBackRow : OpenClaim := { program := "ytfbmlefhjoblbaagreat", sum := "1235e4144899fedbb2489ebf17753cc42b8ade39e500034bbf5a97005ba6f946", func := "boathouse/boathouselaw11.FileBack", spec := "fileBack", inPlace := ["internal/abi.NoEscape", "internal/bytealg.MakeNoZero"], unfollowed := true, recurses := true, plainKeys := false, apart := false }
def FileBackSaid : Prop := fileBackRow.holds Tryz.pinned (OpenSpec.ofChange fileBackSpec)

/-- ITS FALSE NEIGHBOUR: 'it returns false'. Refute it at one input. -/
def fileBackWrong : ChangeSpec := { name := "fileBack", fn := fun _ => fun
  | [d1, d2, d3, d4] => { results := [.lit (.bool false)], args := [d1, d2, d3, d4] }
  | _ => none }
def FileBackWrongFalsely : Prop := fileBackRow.holds Tryz.pinned (OpenSpec.ofChange fileBackWrong)

/-- 'boathouselaw11.FileColumns': WHATEVER THE INPUT: true; the input reads as it did. -/
def fileColumnsSpec : ChangeSpec := { name := "fileColumns", fn := fun _ => fun
  | [d1, d2] => { results := [.lit (.bool true)], args := [d1, d2] }
  | _ => none }
def fileColumnsRow : OpenClaim := { program := "ytfbmlefhjoblbaagreat", sum := "1235e4144899fedbb2489ebf17753cc42b8ade39e500034bbf5a97005ba6f946", func := "boathouse/boathouselaw11.FileColumns", spec := "fileColumns", inPlace := ["internal/abi.NoEscape", "internal/bytealg.MakeNoZero"], unfollowed := true, recurses := true, plainKeys := false, apart := false }
def FileColumnsSaid : Prop := fileColumnsRow.holds Tryz.pinned (OpenSpec.ofChange fileColumnsSpec)

/-- ITS FALSE NEIGHBOUR: 'it returns false'. Refute it at one input. -/
def fileColumnsWrong : ChangeSpec := { name := "fileColumns", fn := fun _ => fun
  | [d1, d2] => { results := [.lit (.bool false)], args := [d1, d2] }
  | _ => none }
def FileColumnsWrongFalsely : Prop := fileColumnsRow.holds Tryz.pinned (OpenSpec.ofChange fileColumnsWrong)

/- THE SECOND FORM. 'bulk': how many values and letters a reading holds, each counted each time it is reached (what is shared counts as often as it is met; a slice's spare places count too). A statement '..UptoSaid' is the law's where the arguments, and the package variables that the reading takes, are together of bulk at most 1048576: NARROWER than '..Said'. Prove '..Said' where nothing that the law and all that it calls make is longer than what came in: it says more and counts as full. Else prove '..UptoSaid'. A law counts once. -/
mutual
def uptoBulk {H : Type} : DataW H → Nat
  | .lit (.string bytes) => bytes.length + 1
  | .lit _ => 1
  | .nil => 1
  | .ptr d => uptoBulk d + 1
  | .slice elems spare => uptoBulkAll elems + uptoBulkAll spare + 1
  | .agg parts => uptoBulkAll parts + 1
  | .iface _ d => uptoBulk d + 1
  | .map entries => uptoBulkEntries entries + 1
  | .held _ => 1
def uptoBulkAll {H : Type} : List (DataW H) → Nat
  | [] => 0
  | d :: r => uptoBulk d + uptoBulkAll r
def uptoBulkEntries {H : Type} : List (Lit × DataW H) → Nat
  | [] => 0
  | x :: r => uptoBulkEntry x + uptoBulkEntries r
def uptoBulkEntry {H : Type} : Lit × DataW H → Nat
  | (.string bytes, d) => bytes.length + uptoBulk d + 1
  | (_, d) => uptoBulk d + 1
 end
def uptoSmall : (H : Type) → List (DataW H) → Bool := fun _ ds => decide (uptoBulkAll ds ≤ 1048576)
def OpenSpec.upto (s : _root_.Go.ChangeSpec) : _root_.Go.OpenSpec := { _root_.Go.OpenSpec.ofChange s with cond := some uptoSmall }

/-- 'boathouselaw9.VecPuts', WHERE WHAT IT READS IS OF BULK AT MOST 1048576: true; the input reads as it did. -/
def vecPutsUptoRow : OpenClaim := { program := "ytfbmlefhjoblbaagreat", sum := "1235e4144899fedbb2489ebf17753cc42b8ade39e500034bbf5a97005ba6f946", func := "boathouse/boathouselaw9.VecPuts", spec := "vecPuts", inPlace := ["internal/abi.NoEscape", "internal/bytealg.MakeNoZero"], unfollowed := true, recurses := true, plainKeys := false, apart := false, narrowed := true }
def VecPutsUptoSaid : Prop := vecPutsUptoRow.holds Tryz.pinned (OpenSpec.upto vecPutsSpec)

/-- 'boathouselaw9.VecGets', WHERE WHAT IT READS IS OF BULK AT MOST 1048576: true; the input reads as it did. -/
def vecGetsUptoRow : OpenClaim := { program := "ytfbmlefhjoblbaagreat", sum := "1235e4144899fedbb2489ebf17753cc42b8ade39e500034bbf5a97005ba6f946", func := "boathouse/boathouselaw9.VecGets", spec := "vecGets", inPlace := ["internal/abi.NoEscape", "internal/bytealg.MakeNoZero"], unfollowed := true, recurses := true, plainKeys := false, apart := false, narrowed := true }
def VecGetsUptoSaid : Prop := vecGetsUptoRow.holds Tryz.pinned (OpenSpec.upto vecGetsSpec)

/-- 'boathouselaw9.VecBack', WHERE WHAT IT READS IS OF BULK AT MOST 1048576: true; the input reads as it did. -/
def vecBackUptoRow : OpenClaim := { program := "ytfbmlefhjoblbaagreat", sum := "1235e4144899fedbb2489ebf17753cc42b8ade39e500034bbf5a97005ba6f946", func := "boathouse/boathouselaw9.VecBack", spec := "vecBack", inPlace := ["internal/abi.NoEscape", "internal/bytealg.MakeNoZero"], unfollowed := true, recurses := true, plainKeys := false, apart := false, narrowed := true }
def VecBackUptoSaid : Prop := vecBackUptoRow.holds Tryz.pinned (OpenSpec.upto vecBackSpec)

/-- 'boathouselaw9.VecOrder', WHERE WHAT IT READS IS OF BULK AT MOST 1048576: true; the input reads as it did. -/
def vecOrderUptoRow : OpenClaim := { program := "ytfbmlefhjoblbaagreat", sum := "1235e4144899fedbb2489ebf17753cc42b8ade39e500034bbf5a97005ba6f946", func := "boathouse/boathouselaw9.VecOrder", spec := "vecOrder", inPlace := ["internal/abi.NoEscape", "internal/bytealg.MakeNoZero"], unfollowed := true, recurses := true, plainKeys := false, apart := false, narrowed := true }
def VecOrderUptoSaid : Prop := vecOrderUptoRow.holds Tryz.pinned (OpenSpec.upto vecOrderSpec)

/-- 'boathouselaw9.VecShort', WHERE WHAT IT READS IS OF BULK AT MOST 1048576: true; the input reads as it did. -/
def vecShortUptoRow : OpenClaim := { program := "ytfbmlefhjoblbaagreat", sum := "1235e4144899fedbb2489ebf17753cc42b8ade39e500034bbf5a97005ba6f946", func := "boathouse/boathouselaw9.VecShort", spec := "vecShort", inPlace := ["internal/abi.NoEscape", "internal/bytealg.MakeNoZero"], unfollowed := true, recurses := true, plainKeys := false, apart := false, narrowed := true }
def VecShortUptoSaid : Prop := vecShortUptoRow.holds Tryz.pinned (OpenSpec.upto vecShortSpec)

/-- 'boathouselaw9.VecLimits', WHERE WHAT IT READS IS OF BULK AT MOST 1048576: true; the input reads as it did. -/
def vecLimitsUptoRow : OpenClaim := { program := "ytfbmlefhjoblbaagreat", sum := "1235e4144899fedbb2489ebf17753cc42b8ade39e500034bbf5a97005ba6f946", func := "boathouse/boathouselaw9.VecLimits", spec := "vecLimits", inPlace := ["internal/abi.NoEscape", "internal/bytealg.MakeNoZero"], unfollowed := true, recurses := true, plainKeys := false, apart := false, narrowed := true }
def VecLimitsUptoSaid : Prop := vecLimitsUptoRow.holds Tryz.pinned (OpenSpec.upto vecLimitsSpec)

/-- 'boathouselaw11.FilePuts', WHERE WHAT IT READS IS OF BULK AT MOST 1048576: true; the input reads as it did. -/
def filePutsUptoRow : OpenClaim := { program := "ytfbmlefhjoblbaagreat", sum := "1235e4144899fedbb2489ebf17753cc42b8ade39e500034bbf5a97005ba6f946", func := "boathouse/boathouselaw11.FilePuts", spec := "filePuts", inPlace := ["internal/abi.NoEscape", "internal/bytealg.MakeNoZero"], unfollowed := true, recurses := true, plainKeys := false, apart := false, narrowed := true }
def FilePutsUptoSaid : Prop := filePutsUptoRow.holds Tryz.pinned (OpenSpec.upto filePutsSpec)

/-- 'boathouselaw11.FileGets', WHERE WHAT IT READS IS OF BULK AT MOST 1048576: true; the input reads as it did. -/
def fileGetsUptoRow : OpenClaim := { program := "ytfbmlefhjoblbaagreat", sum := "1235e4144899fedbb2489ebf17753cc42b8ade39e500034bbf5a97005ba6f946", func := "boathouse/boathouselaw11.FileGets", spec := "fileGets", inPlace := ["internal/abi.NoEscape", "internal/bytealg.MakeNoZero"], unfollowed := true, recurses := true, plainKeys := false, apart := false, narrowed := true }
def FileGetsUptoSaid : Prop := fileGetsUptoRow.holds Tryz.pinned (OpenSpec.upto fileGetsSpec)

/-- 'boathouselaw11.FileBack', WHERE WHAT IT READS IS OF BULK AT MOST 1048576: true; the input reads as it did. -/
def fileBackUptoRow : OpenClaim := { program := "ytfbmlefhjoblbaagreat", sum := "1235e4144899fedbb2489ebf17753cc42b8ade39e500034bbf5a97005ba6f946", func := "boathouse/boathouselaw11.FileBack", spec := "fileBack", inPlace := ["internal/abi.NoEscape", "internal/bytealg.MakeNoZero"], unfollowed := true, recurses := true, plainKeys := false, apart := false, narrowed := true }
def FileBackUptoSaid : Prop := fileBackUptoRow.holds Tryz.pinned (OpenSpec.upto fileBackSpec)

/-- 'boathouselaw11.FileColumns', WHERE WHAT IT READS IS OF BULK AT MOST 1048576: true; the input reads as it did. -/
def fileColumnsUptoRow : OpenClaim := { program := "ytfbmlefhjoblbaagreat", sum := "1235e4144899fedbb2489ebf17753cc42b8ade39e500034bbf5a97005ba6f946", func := "boathouse/boathouselaw11.FileColumns", spec := "fileColumns", inPlace := ["internal/abi.NoEscape", "internal/bytealg.MakeNoZero"], unfollowed := true, recurses := true, plainKeys := false, apart := false, narrowed := true }
def FileColumnsUptoSaid : Prop := fileColumnsUptoRow.holds Tryz.pinned (OpenSpec.upto fileColumnsSpec)

end Rows
end Go.Proofs.YtfbmlefhjoblbaaGreat
