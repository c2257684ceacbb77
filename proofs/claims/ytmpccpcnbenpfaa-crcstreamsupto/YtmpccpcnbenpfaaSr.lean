/-
  Package crc: a Stream's Reset.
-/
import Derived.Test.YtmpccpcnbenpfaaSm
namespace Go.Proofs.Ytmpccpcnbenpfaa
open Go.RowKit Go.Great
section
attribute [local irreducible] Calls rg ov
theorem sreset_any {w : World} {b o : Nat} {c : Int} {r : BitVec 32} (h : Sm w b o c r) :
    Calls Try.prog 12 #[.pointer (some ⟨b, o, none⟩)] w fun e w' => e = .returned (.tuple #[]) ∧ w' = (w.setCell ⟨b, o, none⟩ (.int .u64 0)).setCell ⟨b, o + 1, none⟩ (.int .u32 0) := by
  obtain ⟨h1, h2, h3, h4⟩ := h
  go_enter Try.func12, Try.ntmps12
  go_wp2
  go_end0
  exact ⟨rfl, rfl⟩
end
end Go.Proofs.Ytmpccpcnbenpfaa
