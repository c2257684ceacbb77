/-
  'Powers' over the field of four.
-/
import Derived.Test.YtmjobnabnkiakaaKp
import Derived.Test.YtmjobnabnkiakaaBu
namespace Go.Proofs.Ytmjobnabnkiakaa
open Go.RowKit
section
attribute [local irreducible] Calls el Ov pwk
end
end Go.Proofs.Ytmjobnabnkiakaa
