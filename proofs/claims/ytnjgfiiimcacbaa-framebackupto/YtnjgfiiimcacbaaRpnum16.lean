/-
  'reading' with one of its functions.
-/
import Derived.Test.YtnjgfiiimcacbaaRc
namespace Go.Proofs.Ytnjgfiiimcacbaa
open Go.RowKit
section
attribute [local irreducible] Calls el
-- num16
end
end Go.Proofs.Ytnjgfiiimcacbaa
