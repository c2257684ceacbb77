/-
  'reading' with one of its functions.
-/
import Derived.Test.YtpjgnmilkpldhaaRc
namespace Go.Proofs.Ytpjgnmilkpldhaa
open Go.RowKit
section
attribute [local irreducible] Calls el
-- num64
end
end Go.Proofs.Ytpjgnmilkpldhaa
