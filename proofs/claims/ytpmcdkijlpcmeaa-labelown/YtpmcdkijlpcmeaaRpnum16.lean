/-
  'reading' with one of its functions.
-/
import Derived.Test.YtpmcdkijlpcmeaaRc
namespace Go.Proofs.Ytpmcdkijlpcmeaa
open Go.RowKit
section
attribute [local irreducible] Calls el
-- num16
end
end Go.Proofs.Ytpmcdkijlpcmeaa
