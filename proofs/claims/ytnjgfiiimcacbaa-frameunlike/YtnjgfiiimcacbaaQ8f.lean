/-
  The document's Length.
-/
import Derived.Test.YtnjgfiiimcacbaaQ8e
import Derived.Test.YtnjgfiiimcacbaaSi8
namespace Go.Proofs.Ytnjgfiiimcacbaa
open Go.RowKit
section
attribute [local irreducible] Calls el Hd.cs
end
end Go.Proofs.Ytnjgfiiimcacbaa
