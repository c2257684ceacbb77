/-
  'reading' with one of its functions.
-/
import Derived.Test.YtlhacjenpginbaaRc
namespace Go.Proofs.Ytlhacjenpginbaa
open Go.RowKit
section
attribute [local irreducible] Calls el
-- num16
end
end Go.Proofs.Ytlhacjenpginbaa
