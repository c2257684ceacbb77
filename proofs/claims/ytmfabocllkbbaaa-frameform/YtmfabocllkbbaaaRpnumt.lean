/-
  'reading' with one of its functions.
-/
import Derived.Test.YtmfabocllkbbaaaRc
namespace Go.Proofs.Ytmfabocllkbbaaa
open Go.RowKit
section
attribute [local irreducible] Calls el
-- numt
end
end Go.Proofs.Ytmfabocllkbbaaa
