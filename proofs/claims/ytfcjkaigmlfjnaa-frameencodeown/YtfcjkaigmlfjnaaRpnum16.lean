/-
  'reading' with one of its functions.
-/
import Derived.Test.YtfcjkaigmlfjnaaRc
namespace Go.Proofs.Ytfcjkaigmlfjnaa
open Go.RowKit
section
attribute [local irreducible] Calls el
-- num16
end
end Go.Proofs.Ytfcjkaigmlfjnaa
