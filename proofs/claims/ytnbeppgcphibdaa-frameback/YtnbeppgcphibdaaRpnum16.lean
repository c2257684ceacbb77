/-
  'reading' with one of its functions.
-/
import Derived.Test.YtnbeppgcphibdaaRc
namespace Go.Proofs.Ytnbeppgcphibdaa
open Go.RowKit
section
attribute [local irreducible] Calls el
-- num16
end
end Go.Proofs.Ytnbeppgcphibdaa
