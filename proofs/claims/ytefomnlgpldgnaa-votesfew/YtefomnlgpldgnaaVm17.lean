/-
  Votes as mathematics: the groups by hand, the verdict.
-/
import Derived.Test.YtefomnlgpldgnaaVa17
namespace Go.Proofs.Ytefomnlgpldgnaa
/-- The groups, by hand. -/
def insW (k : Wg) : List Wg → List Wg
  | [] => [k]
  | x :: r => if older x k = true then k :: x :: r else if x = k then x :: r else x :: insW k r
theorem mem_insW (k y : Wg) (l : List Wg) : y ∈ insW k l ↔ y = k ∨ y ∈ l := by
  induction l with
  | nil => simp [insW]
  | cons x r ih =>
    unfold insW
    split
    · simp
    · split
      · rename_i e
        subst e
        simp
      · rw [List.mem_cons, ih, List.mem_cons]
        constructor
        · rintro (h | h | h)
          · exact .inr (.inl h)
          · exact .inl h
          · exact .inr (.inr h)
        · rintro (h | h | h)
          · exact .inr (.inl h)
          · exact .inl h
          · exact .inr (.inr h)
theorem ord_insW {k : Wg} {l : List Wg} (h : l.Pairwise fun a b => older b a = true) : (insW k l).Pairwise fun a b => older b a = true := by
  induction l with
  | nil => exact List.pairwise_singleton _ _
  | cons x r ih =>
    have hx := List.pairwise_cons.1 h
    unfold insW
    split
    · rename_i hk
      refine List.pairwise_cons.2 ⟨fun y hy => ?_, h⟩
      rcases List.mem_cons.1 hy with e | hy
      · rw [e]; exact hk
      · exact older_trans (hx.1 y hy) hk
    · split
      · exact h
      · rename_i hk hne
        refine List.pairwise_cons.2 ⟨fun y hy => ?_, ih hx.2⟩
        rcases (mem_insW k y r).1 hy with e | hy
        · rw [e]
          rcases older_total hne with h1 | h1
          · exact absurd h1 hk
          · exact h1
        · exact hx.1 y hy
def kys (s : Shs) : Nat → List Wg
  | 0 => []
  | n + 1 => if (s n).1 = 2 then insW (s n).2 (kys s n) else kys s n
theorem kys_ord (s : Shs) : ∀ n, (kys s n).Pairwise fun a b => older b a = true
  | 0 => List.Pairwise.nil
  | n + 1 => by
    unfold kys
    split
    · exact ord_insW (kys_ord s n)
    · exact kys_ord s n
theorem kys_mem (s : Shs) (k : Wg) : ∀ n, k ∈ kys s n ↔ ∃ i, i < n ∧ sh s k i = true
  | 0 => by simp [kys]
  | n + 1 => by
    have h1 : (∃ i, i < n + 1 ∧ sh s k i = true) ↔ (∃ i, i < n ∧ sh s k i = true) ∨ sh s k n = true := by
      constructor
      · rintro ⟨i, hi, h⟩
        by_cases e : i = n
        · subst e; exact .inr h
        · exact .inl ⟨i, by omega, h⟩
      · rintro (⟨i, hi, h⟩ | h)
        · exact ⟨i, by omega, h⟩
        · exact ⟨n, by omega, h⟩
    rw [h1]
    unfold kys
    split
    · rename_i h2
      rw [mem_insW, kys_mem s k n, sh_iff]
      constructor
      · rintro (h | h)
        · exact .inr ⟨h2, h.symm⟩
        · exact .inl h
      · rintro (h | h)
        · exact .inr h
        · exact .inl h.2.symm
    · rename_i h2
      rw [kys_mem s k n, sh_iff]
      constructor
      · exact .inl
      · rintro (h | h)
        · exact h
        · exact absurd h.1 h2
def grps (s : Shs) (n : Nat) : List Grp := (kys s n).map fun k => (k, plc s n k)
theorem isG_grps (s : Shs) (n : Nat) : IsG s n (grps s n) where
  ord := by unfold grps; rw [List.pairwise_map]; exact kys_ord s n
  all := fun k => by
    rw [← kys_mem]
    unfold grps
    constructor
    · intro h; exact ⟨_, List.mem_map.2 ⟨k, h, rfl⟩, rfl⟩
    · rintro ⟨p, hp, rfl⟩
      obtain ⟨k', h, rfl⟩ := List.mem_map.1 hp
      exact h
  pls := fun p hp => by
    obtain ⟨k', _, rfl⟩ := List.mem_map.1 hp
    rfl
/-- A verdict. -/
structure Vd where
  kd : Int
  wg : Wg
  pl : List Nat
def cnts (K : Int) (p : Grp) : Bool := decide (K ≤ (p.2.length : Int))
def vjd (K M : Int) (l : List Grp) (h : Nat) : Vd :=
  match l.find? (cnts K) with
  | some p => ⟨1, p.1, p.2⟩
  | none => if M < (h : Int) then ⟨3, (0, 0, 0), []⟩ else ⟨2, (0, 0, 0), []⟩
end Go.Proofs.Ytefomnlgpldgnaa
