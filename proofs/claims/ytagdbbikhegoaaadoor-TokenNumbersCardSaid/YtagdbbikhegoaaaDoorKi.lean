/-
  Tokens: the reference's word, where it begins with a digit.
-/
import Derived.Test.YtagdbbikhegoaaaDoorKh
namespace Go.Proofs.YtagdbbikhegoaaaDoor
open Go.RowKit
set_option linter.unusedVariables false
set_option maxRecDepth 100000
end Go.Proofs.YtagdbbikhegoaaaDoor
