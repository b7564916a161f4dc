/-
  No cell of these rows narrows 'for every input' (looked for: loops, veiled, ifaces, maps, wideKeys, modest, calm, conditions, laid).
  DERIVED. THE GIVEN ROWS OF THIS SEAT. 3 by the template 'for every input the law returns true; each argument reads behind the call as it read before'; 0 by the template 'total and deterministic' (their statements: YtlepmiijdpcgnaaTotals.lean).
  GIVEN WITH THE SEED: the statements are not yours to turn. If you find one false, say at which input.
  Laid BY PROGRAM, IN A SANDBOX (cutbox-rows.mjs): the forced cells as the released guide's own fill.sh prints them over the translation c1f7a10e91f169c1… (all of the seat's roots in one cut). By AI agents, Wed Nov 11 2026. No macro, syntax, notation, axiom, sorry.
-/
import Derived.Test.YtlepmiijdpcgnaaChecked
import GoSem.Claim
import GoSem.ClaimJoined
import GoSem.ClaimMapViews
import Derived.JoinedTies
import Derived.KernelRfl
namespace Go.Proofs.Ytlepmiijdpcgnaa
/- THE CELL 'sum', in the pinned program and in every row, IS THE sha256 OF THE DUMP (.gsa) THAT YtlepmiijdpcgnaaProg.lean LOADS. Nothing in Lean hashes anything: it is a label: what it is worth is what the hold of that sum in a sandbox is worth. -/
noncomputable def Try.pinned : Pinned := { name := "ytlepmiijdpcgnaa", sum := "c1f7a10e91f169c1ce3db90e7041eac53b11047ad2c92ce05752bc578c10935e", checked := Try.checked }
namespace Rows
def none {H : Type} : Left H := { results := [], args := [] }

/-- 'boathouselaw6.Bitpacks': WHATEVER THE INPUT: true; the input reads as it did. -/
def bitpacksSpec : ChangeSpec := { name := "bitpacks", fn := fun _ => fun
  | [d1, d2, d3, d4] => { results := [.lit (.bool true)], args := [d1, d2, d3, d4] }
  | _ => none }
def bitpacksRow : OpenClaim := { program := "ytlepmiijdpcgnaa", sum := "c1f7a10e91f169c1ce3db90e7041eac53b11047ad2c92ce05752bc578c10935e", func := "boathouse/boathouselaw6.Bitpacks", spec := "bitpacks", inPlace := ["internal/abi.NoEscape", "internal/bytealg.MakeNoZero"], apart := false }
def BitpacksSaid : Prop := bitpacksRow.holds Try.pinned (OpenSpec.ofChange bitpacksSpec)

/-- ITS FALSE NEIGHBOUR: 'it returns false'. Refute it at one input. -/
def bitpacksWrong : ChangeSpec := { name := "bitpacks", fn := fun _ => fun
  | [d1, d2, d3, d4] => { results := [.lit (.bool false)], args := [d1, d2, d3, d4] }
  | _ => none }
def BitpacksWrongFalsely : Prop := bitpacksRow.holds Try.pinned (OpenSpec.ofChange bitpacksWrong)

/-- 'boathouselaw6.BitpackBack': WHATEVER THE INPUT: true; the input reads as it did. -/
def bitpackBackSpec : ChangeSpec := { name := "bitpackBack", fn := fun _ => fun
  | [d1, d2] => { results := [.lit (.bool true)], args := [d1, d2] }
  | _ => none }
def bitpackBackRow : OpenClaim := { program := "ytlepmiijdpcgnaa", sum := "c1f7a10e91f169c1ce3db90e7041eac53b11047ad2c92ce05752bc578c10935e", func := "boathouse/boathouselaw6.BitpackBack", spec := "bitpackBack", inPlace := ["internal/abi.NoEscape", "internal/bytealg.MakeNoZero"], apart := false }
def BitpackBackSaid : Prop := bitpackBackRow.holds Try.pinned (OpenSpec.ofChange bitpackBackSpec)

/-- ITS FALSE NEIGHBOUR: 'it returns false'. Refute it at one input. -/
def bitpackBackWrong : ChangeSpec := { name := "bitpackBack", fn := fun _ => fun
  | [d1, d2] => { results := [.lit (.bool false)], args := [d1, d2] }
  | _ => none }
def BitpackBackWrongFalsely : Prop := bitpackBackRow.holds Try.pinned (OpenSpec.ofChange bitpackBackWrong)

/-- 'boathouselaw6.BitpackBits': WHATEVER THE INPUT: true; the input reads as it did. -/
def bitpackBitsSpec : ChangeSpec := { name := "bitpackBits", fn := fun _ => fun
  | [d1, d2, d3] => { results := [.lit (.bool true)], args := [d1, d2, d3] }
  | _ => none }
def bitpackBitsRow : OpenClaim := { program := "ytlepmiijdpcgnaa", sum := "c1f7a10e91f169c1ce3db90e7041eac53b11047ad2c92ce05752bc578c10935e", func := "boathouse/boathouselaw6.BitpackBits", spec := "bitpackBits", inPlace := ["internal/abi.NoEscape", "internal/bytealg.MakeNoZero"], apart := false }
def BitpackBitsSaid : Prop := bitpackBitsRow.holds Try.pinned (OpenSpec.ofChange bitpackBitsSpec)

/-- ITS FALSE NEIGHBOUR: 'it returns false'. Refute it at one input. -/
def bitpackBitsWrong : ChangeSpec := { name := "bitpackBits", fn := fun _ => fun
  | [d1, d2, d3] => { results := [.lit (.bool false)], args := [d1, d2, d3] }
  | _ => none }
def BitpackBitsWrongFalsely : Prop := bitpackBitsRow.holds Try.pinned (OpenSpec.ofChange bitpackBitsWrong)

/- THE SECOND FORM. 'bulk': how many values and letters a reading holds, each counted each time it is reached (what is shared counts as often as it is met; a slice's spare places count too). A statement '..UptoSaid' is the law's where the arguments, and the package variables that the reading takes, are together of bulk at most 1048576: NARROWER than '..Said'. Prove '..Said' where nothing that the law and all that it calls make is longer than what came in: it says more and counts as full. Else prove '..UptoSaid'. A law counts once. -/
mutual
def uptoBulk {H : Type} : DataW H → Nat
  | .lit (.string bytes) => bytes.length + 1
  | .lit _ => 1
  | .nil => 1
  | .ptr d => uptoBulk d + 1
  | .slice elems spare => uptoBulkAll elems + uptoBulkAll spare + 1
  | .agg parts => uptoBulkAll parts + 1
  | .iface _ d => uptoBulk d + 1
  | .map entries => uptoBulkEntries entries + 1
  | .held _ => 1
def uptoBulkAll {H : Type} : List (DataW H) → Nat
  | [] => 0
  | d :: r => uptoBulk d + uptoBulkAll r
def uptoBulkEntries {H : Type} : List (Lit × DataW H) → Nat
  | [] => 0
  | x :: r => uptoBulkEntry x + uptoBulkEntries r
def uptoBulkEntry {H : Type} : Lit × DataW H → Nat
  | (.string bytes, d) => bytes.length + uptoBulk d + 1
  | (_, d) => uptoBulk d + 1
 end
def uptoSmall : (H : Type) → List (DataW H) → Bool := fun _ ds => decide (uptoBulkAll ds ≤ 1048576)
def OpenSpec.upto (s : _root_.Go.ChangeSpec) : _root_.Go.OpenSpec := { _root_.Go.OpenSpec.ofChange s with cond := some uptoSmall }

/-- 'boathouselaw6.Bitpacks', WHERE WHAT IT READS IS OF BULK AT MOST 1048576: true; the input reads as it did. -/
def bitpacksUptoRow : OpenClaim := { program := "ytlepmiijdpcgnaa", sum := "c1f7a10e91f169c1ce3db90e7041eac53b11047ad2c92ce05752bc578c10935e", func := "boathouse/boathouselaw6.Bitpacks", spec := "bitpacks", inPlace := ["internal/abi.NoEscape", "internal/bytealg.MakeNoZero"], apart := false, narrowed := true }
def BitpacksUptoSaid : Prop := bitpacksUptoRow.holds Try.pinned (OpenSpec.upto bitpacksSpec)

/-- 'boathouselaw6.BitpackBack', WHERE WHAT IT READS IS OF BULK AT MOST 1048576: true; the input reads as it did. -/
def bitpackBackUptoRow : OpenClaim := { program := "ytlepmiijdpcgnaa", sum := "c1f7a10e91f169c1ce3db90e7041eac53b11047ad2c92ce05752bc578c10935e", func := "boathouse/boathouselaw6.BitpackBack", spec := "bitpackBack", inPlace := ["internal/abi.NoEscape", "internal/bytealg.MakeNoZero"], apart := false, narrowed := true }
def BitpackBackUptoSaid : Prop := bitpackBackUptoRow.holds Try.pinned (OpenSpec.upto bitpackBackSpec)

/-- 'boathouselaw6.BitpackBits', WHERE WHAT IT READS IS OF BULK AT MOST 1048576: true; the input reads as it did. -/
def bitpackBitsUptoRow : OpenClaim := { program := "ytlepmiijdpcgnaa", sum := "c1f7a10e91f169c1ce3db90e7041eac53b11047ad2c92ce05752bc578c10935e", func := "boathouse/boathouselaw6.BitpackBits", spec := "bitpackBits", inPlace := ["internal/abi.NoEscape", "internal/bytealg.MakeNoZero"], apart := false, narrowed := true }
def BitpackBitsUptoSaid : Prop := bitpackBitsUptoRow.holds Try.pinned (OpenSpec.upto bitpackBitsSpec)

end Rows
end Go.Proofs.Ytlepmiijdpcgnaa
