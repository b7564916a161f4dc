/-
  No cell of these rows narrows 'for every input' (looked for: loops, veiled, ifaces, maps, wideKeys, modest, calm, conditions, laid).
  DERIVED. THE GIVEN ROWS OF THIS SEAT. 8 by the template 'for every input the law returns true; each argument reads behind the call as it read before'; 0 by the template 'total and deterministic' (their statements: YthfakpekdjmpjaaTotals.lean).
  GIVEN WITH THE SEED: the statements are not yours to turn. If you find one false, say at which input.
  Laid BY PROGRAM, IN A SANDBOX (cutbox-rows.mjs): the forced cells as the released guide's own fill.sh prints them over the translation d7396dce9b8788d8… (all of the seat's roots in one cut). By AI agents, Wed Nov 11 2026. No macro, syntax, notation, axiom, sorry.
-/
import Derived.Test.YthfakpekdjmpjaaChecked
import GoSem.Claim
import GoSem.ClaimJoined
import GoSem.ClaimMapViews
import Derived.JoinedTies
import Derived.KernelRfl
namespace Go.Proofs.Ythfakpekdjmpjaa
/- THE CELL 'sum', in the pinned program and in every row, IS THE sha256 OF THE DUMP (.gsa) THAT YthfakpekdjmpjaaProg.lean LOADS. Nothing in Lean hashes anything: it is a label: what it is worth is what the hold of that sum in a sandbox is worth. -/
noncomputable def Try.pinned : Pinned := { name := "ythfakpekdjmpjaa", sum := "d7396dce9b8788d8e706c197743368cdb59284b7a9ef3fa0e5d45e59a5bc03f7", checked := Try.checked }
namespace Rows
def none {H : Type} : Left H := { results := [], args := [] }

/-- 'boathouselaw12.Schemas': WHATEVER THE INPUT: true; the input reads as it did. -/
def schemasSpec : ChangeSpec := { name := "schemas", fn := fun _ => fun
  | [d1, d2, d3, d4, d5, d6] => { results := [.lit (.bool true)], args := [d1, d2, d3, d4, d5, d6] }
  | _ => none }
def schemasRow : OpenClaim := { program := "ythfakpekdjmpjaa", sum := "d7396dce9b8788d8e706c197743368cdb59284b7a9ef3fa0e5d45e59a5bc03f7", func := "boathouse/boathouselaw12.Schemas", spec := "schemas", unfollowed := true, recurses := true, plainKeys := false, apart := false }
def SchemasSaid : Prop := schemasRow.holds Try.pinned (OpenSpec.ofChange schemasSpec)

/-- ITS FALSE NEIGHBOUR: 'it returns false'. Refute it at one input. -/
def schemasWrong : ChangeSpec := { name := "schemas", fn := fun _ => fun
  | [d1, d2, d3, d4, d5, d6] => { results := [.lit (.bool false)], args := [d1, d2, d3, d4, d5, d6] }
  | _ => none }
def SchemasWrongFalsely : Prop := schemasRow.holds Try.pinned (OpenSpec.ofChange schemasWrong)

/-- 'boathouselaw12.SchemaWalks': WHATEVER THE INPUT: true; the input reads as it did. -/
def schemaWalksSpec : ChangeSpec := { name := "schemaWalks", fn := fun _ => fun
  | [d] => { results := [.lit (.bool true)], args := [d] }
  | _ => none }
def schemaWalksRow : OpenClaim := { program := "ythfakpekdjmpjaa", sum := "d7396dce9b8788d8e706c197743368cdb59284b7a9ef3fa0e5d45e59a5bc03f7", func := "boathouse/boathouselaw12.SchemaWalks", spec := "schemaWalks", unfollowed := true, recurses := true, plainKeys := false, apart := false }
def SchemaWalksSaid : Prop := schemaWalksRow.holds Try.pinned (OpenSpec.ofChange schemaWalksSpec)

/-- ITS FALSE NEIGHBOUR: 'it returns false'. Refute it at one input. -/
def schemaWalksWrong : ChangeSpec := { name := "schemaWalks", fn := fun _ => fun
  | [d] => { results := [.lit (.bool false)], args := [d] }
  | _ => none }
def SchemaWalksWrongFalsely : Prop := schemaWalksRow.holds Try.pinned (OpenSpec.ofChange schemaWalksWrong)

/-- 'boathouselaw12.SchemaNames': WHATEVER THE INPUT: true; the input reads as it did. -/
def schemaNamesSpec : ChangeSpec := { name := "schemaNames", fn := fun _ => fun
  | [d1, d2] => { results := [.lit (.bool true)], args := [d1, d2] }
  | _ => none }
def schemaNamesRow : OpenClaim := { program := "ythfakpekdjmpjaa", sum := "d7396dce9b8788d8e706c197743368cdb59284b7a9ef3fa0e5d45e59a5bc03f7", func := "boathouse/boathouselaw12.SchemaNames", spec := "schemaNames", unfollowed := true, recurses := true, plainKeys := false, apart := false }
def SchemaNamesSaid : Prop := schemaNamesRow.holds Try.pinned (OpenSpec.ofChange schemaNamesSpec)

/-- ITS FALSE NEIGHBOUR: 'it returns false'. Refute it at one input. -/
def schemaNamesWrong : ChangeSpec := { name := "schemaNames", fn := fun _ => fun
  | [d1, d2] => { results := [.lit (.bool false)], args := [d1, d2] }
  | _ => none }
def SchemaNamesWrongFalsely : Prop := schemaNamesRow.holds Try.pinned (OpenSpec.ofChange schemaNamesWrong)

/-- 'boathouselaw12.SchemaFull': WHATEVER THE INPUT: true; the input reads as it did. -/
def schemaFullSpec : ChangeSpec := { name := "schemaFull", fn := fun _ => fun
  | [d1, d2] => { results := [.lit (.bool true)], args := [d1, d2] }
  | _ => none }
def schemaFullRow : OpenClaim := { program := "ythfakpekdjmpjaa", sum := "d7396dce9b8788d8e706c197743368cdb59284b7a9ef3fa0e5d45e59a5bc03f7", func := "boathouse/boathouselaw12.SchemaFull", spec := "schemaFull", unfollowed := true, recurses := true, plainKeys := false, apart := false }
def SchemaFullSaid : Prop := schemaFullRow.holds Try.pinned (OpenSpec.ofChange schemaFullSpec)

/-- ITS FALSE NEIGHBOUR: 'it returns false'. Refute it at one input. -/
def schemaFullWrong : ChangeSpec := { name := "schemaFull", fn := fun _ => fun
  | [d1, d2] => { results := [.lit (.bool false)], args := [d1, d2] }
  | _ => none }
def SchemaFullWrongFalsely : Prop := schemaFullRow.holds Try.pinned (OpenSpec.ofChange schemaFullWrong)

/-- 'boathouselaw13.SpecApplies': WHATEVER THE INPUT: true; the input reads as it did. -/
def specAppliesSpec : ChangeSpec := { name := "specApplies", fn := fun _ => fun
  | [d1, d2] => { results := [.lit (.bool true)], args := [d1, d2] }
  | _ => none }
def specAppliesRow : OpenClaim := { program := "ythfakpekdjmpjaa", sum := "d7396dce9b8788d8e706c197743368cdb59284b7a9ef3fa0e5d45e59a5bc03f7", func := "boathouse/boathouselaw13.SpecApplies", spec := "specApplies", unfollowed := true, recurses := true, plainKeys := false, apart := false }
def SpecAppliesSaid : Prop := specAppliesRow.holds Try.pinned (OpenSpec.ofChange specAppliesSpec)

/-- ITS FALSE NEIGHBOUR: 'it returns false'. Refute it at one input. -/
def specAppliesWrong : ChangeSpec := { name := "specApplies", fn := fun _ => fun
  | [d1, d2] => { results := [.lit (.bool false)], args := [d1, d2] }
  | _ => none }
def SpecAppliesWrongFalsely : Prop := specAppliesRow.holds Try.pinned (OpenSpec.ofChange specAppliesWrong)

/-- 'boathouselaw13.SpecParts': WHATEVER THE INPUT: true; the input reads as it did. -/
def specPartsSpec : ChangeSpec := { name := "specParts", fn := fun _ => fun
  | [d1, d2, d3] => { results := [.lit (.bool true)], args := [d1, d2, d3] }
  | _ => none }
def specPartsRow : OpenClaim := { program := "ythfakpekdjmpjaa", sum := "d7396dce9b8788d8e706c197743368cdb59284b7a9ef3fa0e5d45e59a5bc03f7", func := "boathouse/boathouselaw13.SpecParts", spec := "specParts", unfollowed := true, recurses := true, plainKeys := false, apart := false }
def SpecPartsSaid : Prop := specPartsRow.holds Try.pinned (OpenSpec.ofChange specPartsSpec)

/-- ITS FALSE NEIGHBOUR: 'it returns false'. Refute it at one input. -/
def specPartsWrong : ChangeSpec := { name := "specParts", fn := fun _ => fun
  | [d1, d2, d3] => { results := [.lit (.bool false)], args := [d1, d2, d3] }
  | _ => none }
def SpecPartsWrongFalsely : Prop := specPartsRow.holds Try.pinned (OpenSpec.ofChange specPartsWrong)

/-- 'boathouselaw13.SpecTwice': WHATEVER THE INPUT: true; the input reads as it did. -/
def specTwiceSpec : ChangeSpec := { name := "specTwice", fn := fun _ => fun
  | [d1, d2] => { results := [.lit (.bool true)], args := [d1, d2] }
  | _ => none }
def specTwiceRow : OpenClaim := { program := "ythfakpekdjmpjaa", sum := "d7396dce9b8788d8e706c197743368cdb59284b7a9ef3fa0e5d45e59a5bc03f7", func := "boathouse/boathouselaw13.SpecTwice", spec := "specTwice", unfollowed := true, recurses := true, plainKeys := false, apart := false }
def SpecTwiceSaid : Prop := specTwiceRow.holds Try.pinned (OpenSpec.ofChange specTwiceSpec)

/-- ITS FALSE NEIGHBOUR: 'it returns false'. Refute it at one input. -/
def specTwiceWrong : ChangeSpec := { name := "specTwice", fn := fun _ => fun
  | [d1, d2] => { results := [.lit (.bool false)], args := [d1, d2] }
  | _ => none }
def SpecTwiceWrongFalsely : Prop := specTwiceRow.holds Try.pinned (OpenSpec.ofChange specTwiceWrong)

/-- 'boathouselaw13.SpecGroups': WHATEVER THE INPUT: true; the input reads as it did. -/
def specGroupsSpec : ChangeSpec := { name := "specGroups", fn := fun _ => fun
  | [d1, d2, d3] => { results := [.lit (.bool true)], args := [d1, d2, d3] }
  | _ => none }
def specGroupsRow : OpenClaim := { program := "ythfakpekdjmpjaa", sum := "d7396dce9b8788d8e706c197743368cdb59284b7a9ef3fa0e5d45e59a5bc03f7", func := "boathouse/boathouselaw13.SpecGroups", spec := "specGroups", unfollowed := true, recurses := true, plainKeys := false, apart := false }
def SpecGroupsSaid : Prop := specGroupsRow.holds Try.pinned (OpenSpec.ofChange specGroupsSpec)

/-- ITS FALSE NEIGHBOUR: 'it returns false'. Refute it at one input. -/
def specGroupsWrong : ChangeSpec := { name := "specGroups", fn := fun _ => fun
  | [d1, d2, d3] => { results := [.lit (.bool false)], args := [d1, d2, d3] }
  | _ => none }
def SpecGroupsWrongFalsely : Prop := specGroupsRow.holds Try.pinned (OpenSpec.ofChange specGroupsWrong)

/- THE SECOND FORM. 'bulk': how many values and letters a reading holds, each counted each time it is reached (what is shared counts as often as it is met; a slice's spare places count too). A statement '..UptoSaid' is the law's where the arguments, and the package variables that the reading takes, are together of bulk at most 1048576: NARROWER than '..Said'. Prove '..Said' where nothing that the law and all that it calls make is longer than what came in: it says more and counts as full. Else prove '..UptoSaid'. A law counts once. -/
mutual
def uptoBulk {H : Type} : DataW H → Nat
  | .lit (.string bytes) => bytes.length + 1
  | .lit _ => 1
  | .nil => 1
  | .ptr d => uptoBulk d + 1
  | .slice elems spare => uptoBulkAll elems + uptoBulkAll spare + 1
  | .agg parts => uptoBulkAll parts + 1
  | .iface _ d => uptoBulk d + 1
  | .map entries => uptoBulkEntries entries + 1
  | .held _ => 1
def uptoBulkAll {H : Type} : List (DataW H) → Nat
  | [] => 0
  | d :: r => uptoBulk d + uptoBulkAll r
def uptoBulkEntries {H : Type} : List (Lit × DataW H) → Nat
  | [] => 0
  | x :: r => uptoBulkEntry x + uptoBulkEntries r
def uptoBulkEntry {H : Type} : Lit × DataW H → Nat
  | (.string bytes, d) => bytes.length + uptoBulk d + 1
  | (_, d) => uptoBulk d + 1
 end
def uptoSmall : (H : Type) → List (DataW H) → Bool := fun _ ds => decide (uptoBulkAll ds ≤ 1048576)
def OpenSpec.upto (s : _root_.Go.ChangeSpec) : _root_.Go.OpenSpec := { _root_.Go.OpenSpec.ofChange s with cond := some uptoSmall }

/-- 'boathouselaw12.Schemas', WHERE WHAT IT READS IS OF BULK AT MOST 1048576: true; the input reads as it did. -/
def schemasUptoRow : OpenClaim := { program := "ythfakpekdjmpjaa", sum := "d7396dce9b8788d8e706c197743368cdb59284b7a9ef3fa0e5d45e59a5bc03f7", func := "boathouse/boathouselaw12.Schemas", spec := "schemas", unfollowed := true, recurses := true, plainKeys := false, apart := false, narrowed := true }
def SchemasUptoSaid : Prop := schemasUptoRow.holds Try.pinned (OpenSpec.upto schemasSpec)

/-- 'boathouselaw12.SchemaWalks', WHERE WHAT IT READS IS OF BULK AT MOST 1048576: true; the input reads as it did. -/
def schemaWalksUptoRow : OpenClaim := { program := "ythfakpekdjmpjaa", sum := "d7396dce9b8788d8e706c197743368cdb59284b7a9ef3fa0e5d45e59a5bc03f7", func := "boathouse/boathouselaw12.SchemaWalks", spec := "schemaWalks", unfollowed := true, recurses := true, plainKeys := false, apart := false, narrowed := true }
def SchemaWalksUptoSaid : Prop := schemaWalksUptoRow.holds Try.pinned (OpenSpec.upto schemaWalksSpec)

/-- 'boathouselaw12.SchemaNames', WHERE WHAT IT READS IS OF BULK AT MOST 1048576: true; the input reads as it did. -/
def schemaNamesUptoRow : OpenClaim := { program := "ythfakpekdjmpjaa", sum := "d7396dce9b8788d8e706c197743368cdb59284b7a9ef3fa0e5d45e59a5bc03f7", func := "boathouse/boathouselaw12.SchemaNames", spec := "schemaNames", unfollowed := true, recurses := true, plainKeys := false, apart := false, narrowed := true }
def SchemaNamesUptoSaid : Prop := schemaNamesUptoRow.holds Try.pinned (OpenSpec.upto schemaNamesSpec)

/-- 'boathouselaw12.SchemaFull', WHERE WHAT IT READS IS OF BULK AT MOST 1048576: true; the input reads as it did. -/
def schemaFullUptoRow : OpenClaim := { program := "ythfakpekdjmpjaa", sum := "d7396dce9b8788d8e706c197743368cdb59284b7a9ef3fa0e5d45e59a5bc03f7", func := "boathouse/boathouselaw12.SchemaFull", spec := "schemaFull", unfollowed := true, recurses := true, plainKeys := false, apart := false, narrowed := true }
def SchemaFullUptoSaid : Prop := schemaFullUptoRow.holds Try.pinned (OpenSpec.upto schemaFullSpec)

/-- 'boathouselaw13.SpecApplies', WHERE WHAT IT READS IS OF BULK AT MOST 1048576: true; the input reads as it did. -/
def specAppliesUptoRow : OpenClaim := { program := "ythfakpekdjmpjaa", sum := "d7396dce9b8788d8e706c197743368cdb59284b7a9ef3fa0e5d45e59a5bc03f7", func := "boathouse/boathouselaw13.SpecApplies", spec := "specApplies", unfollowed := true, recurses := true, plainKeys := false, apart := false, narrowed := true }
def SpecAppliesUptoSaid : Prop := specAppliesUptoRow.holds Try.pinned (OpenSpec.upto specAppliesSpec)

/-- 'boathouselaw13.SpecParts', WHERE WHAT IT READS IS OF BULK AT MOST 1048576: true; the input reads as it did. -/
def specPartsUptoRow : OpenClaim := { program := "ythfakpekdjmpjaa", sum := "d7396dce9b8788d8e706c197743368cdb59284b7a9ef3fa0e5d45e59a5bc03f7", func := "boathouse/boathouselaw13.SpecParts", spec := "specParts", unfollowed := true, recurses := true, plainKeys := false, apart := false, narrowed := true }
def SpecPartsUptoSaid : Prop := specPartsUptoRow.holds Try.pinned (OpenSpec.upto specPartsSpec)

/-- 'boathouselaw13.SpecTwice', WHERE WHAT IT READS IS OF BULK AT MOST 1048576: true; the input reads as it did. -/
def specTwiceUptoRow : OpenClaim := { program := "ythfakpekdjmpjaa", sum := "d7396dce9b8788d8e706c197743368cdb59284b7a9ef3fa0e5d45e59a5bc03f7", func := "boathouse/boathouselaw13.SpecTwice", spec := "specTwice", unfollowed := true, recurses := true, plainKeys := false, apart := false, narrowed := true }
def SpecTwiceUptoSaid : Prop := specTwiceUptoRow.holds Try.pinned (OpenSpec.upto specTwiceSpec)

/-- 'boathouselaw13.SpecGroups', WHERE WHAT IT READS IS OF BULK AT MOST 1048576: true; the input reads as it did. -/
def specGroupsUptoRow : OpenClaim := { program := "ythfakpekdjmpjaa", sum := "d7396dce9b8788d8e706c197743368cdb59284b7a9ef3fa0e5d45e59a5bc03f7", func := "boathouse/boathouselaw13.SpecGroups", spec := "specGroups", unfollowed := true, recurses := true, plainKeys := false, apart := false, narrowed := true }
def SpecGroupsUptoSaid : Prop := specGroupsUptoRow.holds Try.pinned (OpenSpec.upto specGroupsSpec)

end Rows
end Go.Proofs.Ythfakpekdjmpjaa
