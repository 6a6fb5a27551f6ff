/-
  PACKAGE disk: Truncate, the walk.
-/
import Derived.Test.YtdejajpmebgidaaDoorDy
import Derived.Deep.RegionHeld3
namespace Go.Proofs.YtdejajpmebgidaaDoor
open Go.RowKit Go.Maps WireM DiskM
set_option linter.unusedVariables false
set_option linter.unusedSimpArgs false
set_option maxRecDepth 100000

end Go.Proofs.YtdejajpmebgidaaDoor
