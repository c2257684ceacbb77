/-
  'reading' with one of its functions.
-/
import Derived.Test.YtnbeppgcphibdaaRc
namespace Go.Proofs.Ytnbeppgcphibdaa
open Go.RowKit
section
attribute [local irreducible] Calls el
-- numt
end
end Go.Proofs.Ytnbeppgcphibdaa
