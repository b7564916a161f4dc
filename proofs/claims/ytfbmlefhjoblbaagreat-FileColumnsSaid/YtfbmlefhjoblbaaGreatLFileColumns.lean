/- A file of one column more has the others as they were; its statistics are one more: the walk of the law, whole. -/
import Derived.Test.YtfbmlefhjoblbaaGreatLColA
import Derived.Test.YtfbmlefhjoblbaaGreatLColG
namespace Go.Proofs.YtfbmlefhjoblbaaGreat
open Go.Conc Go.RowKit
set_option linter.unusedVariables false

theorem filecolumns_walk (p : DaAt) (d : Da) (kind : Int) {w : World} (g0 : -9223372036854775808 ≤ kind) (g1 : kind < 9223372036854775808) (hd : DaIs w p d) (hi : InData d) :
    Calls Tryz.prog 12 #[.agg #[.int .i64 d.n, .slice p.ac d.cs.length p.kc, .slice p.ar d.rs.length p.kr], .int .i64 kind] w fun e w' => e = .returned (.bool true) ∧ Below w.heap.size w w' := by
  by_cases hE : (fileA d).2 = 0
  · by_cases h12 : 12 ≤ d.cs.length
    · exact filecolumns_12 p d kind g0 g1 hd hi hE h12
    · exact filecolumns_go p d kind g0 g1 hd hi hE h12
  · exact filecolumns_no p d kind g0 g1 hd hi hE
end Go.Proofs.YtfbmlefhjoblbaaGreat
