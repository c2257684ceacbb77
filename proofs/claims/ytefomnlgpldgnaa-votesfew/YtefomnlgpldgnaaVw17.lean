/-
  The document's own functions of layer 17: Groups.
-/
import Derived.Test.YtefomnlgpldgnaaVu17
namespace Go.Proofs.Ytefomnlgpldgnaa
open Go.RowKit
theorem Bst.first {s : Shs} {l : List Grp} {t : Nat} (hN : ∀ i, i < t → ¬ Cnd s l i) (hc : Cnd s l t) : Bst s l (t + 1) t :=
  ⟨Nat.lt_succ_self t, hc, fun i hi h => by
    by_cases e : i = t
    · subst e; exact older_irrefl _
    · exact absurd h (hN i (by omega))⟩
theorem Bst.next {s : Shs} {l : List Grp} {t j : Nat} (h : Bst s l t j) (hc : Cnd s l t) (ho : older (s j).2 (s t).2 = true) : Bst s l (t + 1) t :=
  ⟨Nat.lt_succ_self t, hc, fun i hi hi2 => by
    by_cases e : i = t
    · subst e; exact older_irrefl _
    · cases h1 : older (s t).2 (s i).2 with
      | false => rfl
      | true =>
        have h2 := h.max i (by omega) hi2
        rw [older_trans ho h1] at h2
        cases h2⟩
theorem Bst.keep {s : Shs} {l : List Grp} {t j : Nat} (h : Bst s l t j) (ho : older (s j).2 (s t).2 = false) : Bst s l (t + 1) j :=
  ⟨Nat.lt_succ_of_lt h.lt, h.cnd, fun i hi hi2 => by
    by_cases e : i = t
    · subst e; exact ho
    · exact h.max i (by omega) hi2⟩
theorem Bst.skip {s : Shs} {l : List Grp} {t j : Nat} (h : Bst s l t j) (hn : ¬ Cnd s l t) : Bst s l (t + 1) j :=
  ⟨Nat.lt_succ_of_lt h.lt, h.cnd, fun i hi hi2 => by
    by_cases e : i = t
    · subst e; exact absurd hi2 hn
    · exact h.max i (by omega) hi2⟩
theorem Bst.noskip {s : Shs} {l : List Grp} {t : Nat} (h : ∀ i, i < t → ¬ Cnd s l i) (hn : ¬ Cnd s l t) : ∀ i, i < t + 1 → ¬ Cnd s l i := fun i hi => by
  by_cases e : i = t
  · subst e; exact hn
  · exact h i (by omega)
theorem Ax.len {w : World} {B : Nat} {es : List (Wg × Sl3)} {L : List Grp} (h : Ax w B es L) : es.length = L.length := h.1
theorem Ax.key {w : World} {B : Nat} {es : List (Wg × Sl3)} {L : List Grp} (h : Ax w B es L) {i : Nat} (hi : i < L.length) : (es.getD i ((0, 0, 0), (0, 0, 0))).1 = (L.getD i ((0, 0, 0), [])).1 := (h.2 i hi).1
def lenV : Value → Nat
  | .slice _ n _ => n
  | _ => 0
theorem wr_m1 {q r : Nat} (h : q = r + 1) (hn : q ≤ 1172812402943) : wrap64 ((q : Int) - 1) = (r : Int) := by unfold wrap64; omega
theorem wr_m1' {q r : Nat} (h : q = r + 1) (hn : q ≤ 1172812402943) : IntKind.i64.wrap ((q : Int) - 1) = (r : Int) := by rw [IntKind.wrap_i64]; omega
section
attribute [local irreducible] Calls GB On Ax slv grE Hd.cs plc grps Cnd
end
end Go.Proofs.Ytefomnlgpldgnaa
