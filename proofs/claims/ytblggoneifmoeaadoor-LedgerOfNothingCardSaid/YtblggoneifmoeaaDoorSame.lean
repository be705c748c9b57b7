/-
  A law's same: two rows of bytes.
-/
import Derived.Test.YtblggoneifmoeaaDoorRows
import Derived.Test.YtblggoneifmoeaaDoorQuiet
import Derived.WalkKit
import Derived.Deep.QuietTactic
import Derived.BigQuiet
namespace Go.Proofs.YtblggoneifmoeaaDoor
open Go.RowKit

end Go.Proofs.YtblggoneifmoeaaDoor
