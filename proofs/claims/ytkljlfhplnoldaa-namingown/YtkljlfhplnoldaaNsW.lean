/-
  The law of the rising keys: the walk.
-/
import Derived.Test.YtkljlfhplnoldaaNi
namespace Go.Proofs.Ytkljlfhplnoldaa
open Go.RowKit Go.Maps Go.Sort
theorem nodup_le : ∀ (a b : List Tx), a.Nodup → (∀ x ∈ a, x ∈ b) → a.length ≤ b.length
  | [], _, _, _ => Nat.zero_le _
  | x :: a, b, hn, hs => by
    have hx := hs x List.mem_cons_self
    have h' := List.nodup_cons.1 hn
    have := nodup_le a (b.erase x) h'.2 (fun y hy => (List.mem_erase_of_ne (fun e => h'.1 (by rw [← e]; exact hy))).2 (hs y (List.mem_cons_of_mem _ hy)))
    rw [List.length_erase_of_mem hx] at this
    have hb : 0 < b.length := List.length_pos_of_mem hx
    simp only [List.length_cons]
    omega
theorem isU_len {ns l : List Tx} {p : Tx} (hU : IsU ns p l) : l.length ≤ ns.length := by
  have := nodup_le (l.map nm) ns (List.pairwise_map.2 (hU.1.imp fun h e => by rw [nm_inj] at e; subst e; exact List.lt_irrefl _ h)) (fun x hx => by
    obtain ⟨y, hy, rfl⟩ := List.mem_map.1 hx
    obtain ⟨n, hn, hk, _⟩ := (hU.2 y).1 hy
    rw [(nm_ky hk).1]; exact hn)
  simpa using this
theorem below_drewN {B : Nat} {a w : World} (h : Below B a w) (n : Nat) : Below B a (w.drewN n) := ⟨h.os, h.tape, h.output, h.size, h.block⟩
theorem isU_at {ns l : List Tx} {p : Tx} (hU : IsU ns p l) {k : Nat} (hk : k < l.length) : p <+: l.getD k [] ∧ fitK (l.getD k []) ∧ nm (l.getD k []) ∈ ns := by
  have hm : l.getD k [] ∈ l := by simp only [List.getD, List.getElem?_eq_getElem hk, Option.getD_some]; exact List.getElem_mem hk
  obtain ⟨n, hn, hy, hp⟩ := (hU.2 _).1 hm
  have := nm_ky hy
  exact ⟨hp, this.2, by rw [this.1]; exact hn⟩
theorem isU_up {ns l : List Tx} {p : Tx} (hU : IsU ns p l) {k : Nat} (hk : k + 1 < l.length) : l.getD k [] < l.getD (k + 1) [] := by
  have h1 : k < l.length := by omega
  simp only [List.getD, List.getElem?_eq_getElem hk, List.getElem?_eq_getElem h1, Option.getD_some]
  exact List.pairwise_iff_getElem.1 hU.1 k (k + 1) h1 hk (by omega)
section
attribute [local irreducible] Calls
end
end Go.Proofs.Ytkljlfhplnoldaa
