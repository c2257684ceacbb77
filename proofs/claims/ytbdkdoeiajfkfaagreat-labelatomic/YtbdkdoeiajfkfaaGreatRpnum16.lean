/-
  'reading' with one of its functions.
-/
import Derived.Test.YtbdkdoeiajfkfaaGreatRf
namespace Go.Proofs.YtbdkdoeiajfkfaaGreat
open Go.RowKit
section
attribute [local irreducible] Calls el
-- num16
end
end Go.Proofs.YtbdkdoeiajfkfaaGreat
