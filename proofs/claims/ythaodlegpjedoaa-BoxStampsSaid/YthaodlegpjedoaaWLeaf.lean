/-
  The walks of wave's functions that look at no list: signless, Back, Mul, Size; the law's gauss; the reference's Mul.
-/
import Derived.Test.YthaodlegpjedoaaWOps
import Derived.Test.YthaodlegpjedoaaChecked
import Derived.Test.YthaodlegpjedoaaWords
import Derived.Handy
import Derived.IntWalk
import Derived.Deep.DeepMust
namespace Go.Proofs.Ythaodlegpjedoaa
open Go.RowKit

end Go.Proofs.Ythaodlegpjedoaa
