/-
  'reading' with one of its functions.
-/
import Derived.Test.YtjobaeopokfekaaGreatRf
namespace Go.Proofs.YtjobaeopokfekaaGreat
open Go.RowKit
section
attribute [local irreducible] Calls el
-- numt
end
end Go.Proofs.YtjobaeopokfekaaGreat
