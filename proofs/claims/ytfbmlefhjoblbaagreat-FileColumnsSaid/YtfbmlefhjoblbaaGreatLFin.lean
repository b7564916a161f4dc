/- Data that came in, within bounds. -/
import Derived.Test.YtfbmlefhjoblbaaGreatDatA
import Derived.Test.YtfbmlefhjoblbaaGreatFm
namespace Go.Proofs.YtfbmlefhjoblbaaGreat
open Go.Conc Go.RowKit
set_option linter.unusedVariables false
set_option linter.unusedSimpArgs false

theorem InData.fin {d : Da} (h : InData d) : FinD d := by
  refine ⟨fun c hc => ?_, fun r hr => ⟨?_, fun v hv => ⟨⟨((h.rs r hr).num v hv).1, ?_⟩, (h.rs r hr).txt v hv⟩⟩⟩
  · have := (h.cs c hc).2.1.2; omega
  · have := (h.rs r hr).len; omega
  · have := ((h.rs r hr).num v hv).2; omega
end Go.Proofs.YtfbmlefhjoblbaaGreat
