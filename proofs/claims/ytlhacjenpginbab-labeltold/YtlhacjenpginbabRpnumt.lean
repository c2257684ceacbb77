/-
  'reading' with one of its functions.
-/
import Derived.Test.YtlhacjenpginbabRc
namespace Go.Proofs.Ytlhacjenpginbab
open Go.RowKit
section
attribute [local irreducible] Calls el
-- numt
end
end Go.Proofs.Ytlhacjenpginbab
