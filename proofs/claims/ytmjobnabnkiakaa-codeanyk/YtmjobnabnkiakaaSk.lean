/-
  Sums; the errors of a product.
-/
import Derived.Test.YtmjobnabnkiakaaKf
namespace Go.Proofs.Ytmjobnabnkiakaa
/-- f 0 to f (n - 1) together. -/
def skk {K : Type} (pl : K → K → K) (o : K) (f : Nat → K) : Nat → K
  | 0 => o
  | n + 1 => pl (skk pl o f n) (f n)
theorem skk_zero {K : Type} (pl : K → K → K) (o : K) (f : Nat → K) : skk pl o f 0 = o := rfl
theorem skk_succ {K : Type} (pl : K → K → K) (o : K) (f : Nat → K) (n : Nat) : skk pl o f (n + 1) = pl (skk pl o f n) (f n) := rfl
def tc (r1 : Nat) (l1 : Nat → Nat) (r2 : Nat) (l2 : Nat → Nat) : Int := if fc r1 l1 ≠ 0 then fc r1 l1 else if fc r2 l2 ≠ 0 then fc r2 l2 else if cw r1 l1 ≠ r2 then 31 else 0
end Go.Proofs.Ytmjobnabnkiakaa
