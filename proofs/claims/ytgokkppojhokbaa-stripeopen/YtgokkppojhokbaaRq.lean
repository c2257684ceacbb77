/-
  The document's 'Product'.
-/
import Derived.Test.YtgokkppojhokbaaFp
import Derived.Deep.RegionHeld3
namespace Go.Proofs.Ytgokkppojhokbaa
open Go.RowKit
theorem ir_zero {w : World} {base : Nat} {t : TypeId} {v : Value} {xs : List Value} {f : Nat → Int} (h : w.ownsRow base t 1 v 0 xs) : Ir w v 0 f := by
  rcases h.2 with ⟨hv, _⟩ | ⟨g, cap, c, hv, _⟩
  · exact ⟨_, _, hv, .inl rfl⟩
  · exact ⟨_, _, hv, .inl rfl⟩
theorem own_ir' {w : World} {base n : Nat} {v : Value} {f : Nat → Int} (h : w.ownsRow base 3 1 v n (lv (fun j => .int .i64 (f j)) n)) : Ir w v n f := owns_st1 h
theorem Jr.at {w : World} {v : Value} {n : Nat} {f : Nat → Int} (h : Jr w v n f) (h0 : 0 < n) : ∃ b o c, v = .slice (some ⟨b, o, none⟩) n c ∧ ∀ i, i < n → w.cell? ⟨b, o + i, none⟩ = some (.int .i64 (f i)) := Sv.cells h h0
theorem Jm.at {w : World} {v : Value} {r : Nat} {l : Nat → Nat} {M : Nat → Nat → Int} (h : Jm w v r l M) (h0 : 0 < r) : ∃ (b o c : Nat) (rows : Nat → Value), v = .slice (some ⟨b, o, none⟩) r c ∧ (∀ i, i < r → w.cell? ⟨b, o + i, none⟩ = some (rows i)) ∧ ∀ i, i < r → Jr w (rows i) (l i) (M i) := by
  obtain ⟨rows, h1, h2⟩ := h
  obtain ⟨b, o, c, e, hc⟩ := h1.cells h0
  exact ⟨b, o, c, rows, e, hc, h2⟩
theorem takeH {P : Program} {ops : Array Oper} {Q : Exit → Act → World → Prop} {md : Region.Mode} {S : World → Prop} {i : Nat} {oi : Oper} {d : Option Tmp} {v : Value} {fuel : Nat} {listed : Array Bool} {a : Act} {w : World} (hi : ops[i]? = some oi) (hd : oi.dst = d)
    (hs : Region.noSelect ops = true) (hf : Region.free md ops listed i = true) (hr : (Region.ready md ops listed).contains i = true)
    (hQ : ∀ c a w, Q (.panic c) (a.put oi.dst v) w → Q (.panic c) a w) (hy : YieldsIf P ops S oi v a) (hS : S w)
    (h : wpAnyH P md ops Q S fuel (listed.setIfInBounds i true) (a.put d v) w) : wpAnyH P md ops Q S (fuel + 1) listed a w := by
  subst hd; exact wpAnyH_take hi hs hf hr hQ hy hS h
section
attribute [local irreducible] Calls lv Ir Jr skk fc cw
end
end Go.Proofs.Ytgokkppojhokbaa
