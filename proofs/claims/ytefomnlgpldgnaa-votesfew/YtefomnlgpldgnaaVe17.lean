/-
  Votes: a map from writings to lists of places.
-/
import Derived.Test.YtefomnlgpldgnaaVd17
import Derived.Test.YtefomnlgpldgnaaRows
import Derived.Maps.RangeWalk
import Derived.Maps.OwnSet
import Derived.Maps.AppendAt
import Derived.DeepKeys5
import Derived.WideKeyEntry
namespace Go.Proofs.Ytefomnlgpldgnaa
open Go.RowKit Go.Maps
theorem laidW : laidOutB Try.prog = true := by kernel_rfl
theorem lawW0 : WideMaps.KeyLaw Try.prog 64 := deep_law_gate laidW (of_decide_eq_true (by kernel_rfl)) (of_decide_eq_true (by kernel_rfl)) (by kernel_rfl) (by kernel_rfl)
theorem lawW : Keyed Try.prog 64 := Keyed.of_law lawW0
/-- Numbers of 64 bits. -/
def InW (k : Wg) : Prop := In64 k.1 ∧ In64 k.2.1 ∧ In64 k.2.2
theorem wf_i64 (z : Int) : (Lit.int .i64 z).wf = true ↔ In64 z := by
  unfold In64
  have e1 : IntKind.i64.min = -9223372036854775808 := by decide
  have e2 : IntKind.i64.max = 9223372036854775807 := by decide
  simp [Lit.wf, e1, e2]
theorem wf64 {z : Int} (h : In64 z) : (Lit.int .i64 z).wf = true := by
  unfold In64 at h
  have e1 : IntKind.i64.min = -9223372036854775808 := by decide
  have e2 : IntKind.i64.max = 9223372036854775807 := by decide
  simp [Lit.wf, e1, e2, h.1, h.2]
/-- A writing as a key that is read. -/
def kL (k : Wg) : Lit := .string (keyBytes [.int .i64 k.1, .int .i64 k.2.1, .int .i64 k.2.2])
theorem cells3 : Try.prog.cellsOf 3 = 1 := by kernel_rfl
theorem cellsG : Try.prog.cellsOf 31 = 2 := by kernel_rfl
theorem cellsW : Try.prog.cellsOf 64 = 3 := by kernel_rfl
theorem typesN : ∃ d, Try.prog.types.size + 1 = d + 3 := ⟨Try.prog.types.size - 2, by have : 2 ≤ Try.prog.types.size := of_decide_eq_true (by kernel_rfl); omega⟩
theorem kl_int (d : Nat) (v : Value) (ls : List Lit) : Try.prog.keyLits (d + 1) 3 [v] = some ls ↔ ∃ z, v = .int .i64 z ∧ In64 z ∧ ls = [.int .i64 z] := by
  unfold Program.keyLits
  simp only [Try.underlying3]
  constructor
  · intro h
    cases v <;> simp at h
    obtain ⟨⟨rfl, hw⟩, rfl⟩ := h
    exact ⟨_, rfl, (wf_i64 _).1 hw, rfl⟩
  · rintro ⟨z, rfl, hz, rfl⟩
    simp [wf64 hz]
theorem kl_gen (d : Nat) (u v : Value) (ls : List Lit) : Try.prog.keyLits (d + 2) 31 [u, v] = some ls ↔ ∃ y z, u = .int .i64 y ∧ v = .int .i64 z ∧ In64 y ∧ In64 z ∧ ls = [.int .i64 y, .int .i64 z] := by
  unfold Program.keyLits
  simp only [Try.underlying31]
  simp [cellsG, cells3]
  have e1 := kl_int d u
  have e2 := kl_int d v
  constructor
  · intro h
    cases hu : Try.prog.keyLits (d + 1) 3 [u] with
    | none => rw [hu] at h; simp at h
    | some l1 =>
      cases hv : Try.prog.keyLits (d + 1) 3 [v] with
      | none => rw [hu, hv] at h; simp at h
      | some l2 =>
        rw [hu, hv] at h
        simp at h
        obtain ⟨y, hy1, hy2, hy3⟩ := (e1 l1).1 hu
        obtain ⟨z, hz1, hz2, hz3⟩ := (e2 l2).1 hv
        subst hy3 hz3
        exact ⟨y, hy1, z, hz1, hy2, hz2, by rw [← h]; rfl⟩
  · rintro ⟨y, hy1, z, hz1, hy2, hz2, rfl⟩
    rw [(e1 _).2 ⟨y, hy1, hy2, rfl⟩, (e2 _).2 ⟨z, hz1, hz2, rfl⟩]
    rfl
theorem kl_wr (d : Nat) (u v x : Value) (ls : List Lit) : Try.prog.keyLits (d + 3) 64 [u, v, x] = some ls ↔ ∃ k : Wg, InW k ∧ [u, v, x] = (wgC k).toList ∧ ls = [.int .i64 k.1, .int .i64 k.2.1, .int .i64 k.2.2] := by
  unfold Program.keyLits
  simp only [Try.underlying64]
  simp [cellsG, cells3, cellsW, wgC, InW]
  have e1 := kl_gen d u v
  have e2 := kl_int (d + 1) x
  constructor
  · intro h
    cases hu : Try.prog.keyLits (d + 2) 31 [u, v] with
    | none => rw [hu] at h; simp at h
    | some l1 =>
      cases hv : Try.prog.keyLits (d + 2) 3 [x] with
      | none => rw [hu, hv] at h; simp at h
      | some l2 =>
        rw [hu, hv] at h
        simp at h
        obtain ⟨y, y', hy1, hy2, hy3, hy4, hy5⟩ := (e1 l1).1 hu
        obtain ⟨z, hz1, hz2, hz3⟩ := (e2 l2).1 hv
        subst hy5 hz3
        exact ⟨y, y', z, ⟨hy3, hy4, hz2⟩, ⟨hy1, hy2, hz1⟩, by rw [← h]; rfl⟩
  · rintro ⟨y, y', z, ⟨hy3, hy4, hz2⟩, ⟨hy1, hy2, hz1⟩, rfl⟩
    rw [(e1 _).2 ⟨y, y', hy1, hy2, hy3, hy4, rfl⟩, (e2 _).2 ⟨z, hz1, hz2, rfl⟩]
    rfl
theorem keyT : Try.prog.keyType 64 = true := by kernel_rfl
theorem key_wg {k : Wg} (h : InW k) : keyOf Try.prog 64 (.agg (wgC k)) = some (kL k) := by
  obtain ⟨d, hd⟩ := typesN
  have e := (kl_wr d _ _ _ _).2 ⟨k, h, rfl, rfl⟩
  have f : (Value.agg (wgC k)).formed Try.prog 64 = true := by
    unfold Value.formed
    simp only [Try.underlying64, cellsW]
    rfl
  unfold keyOf
  simp only [Try.underlying64, keyT, f, Bool.and_self, if_true, hd]
  have e' : Try.prog.keyLits (d + 3) 64 (Value.agg (wgC k)).cells.toList = some [.int .i64 k.1, .int .i64 k.2.1, .int .i64 k.2.2] := e
  rw [e']
  rfl
theorem kL_inj {k k' : Wg} (h : InW k) (h' : InW k') (e : kL k = kL k') : k = k' := by
  have := lawW.inj (key_wg h) (by rw [key_wg h', e])
  simp [wgC] at this
  obtain ⟨h1, h2, h3⟩ := this
  exact Prod.ext h1 (Prod.ext h2 h3)
set_option maxRecDepth 100000 in
theorem formed_wr {v : Value} (h : v.formed Try.prog 64 = true) : ∃ cs, v = .agg cs ∧ cs.size = 3 := by
  unfold Value.formed at h
  split at h
  · rename_i cs
    simp only [Try.underlying64] at h
    refine ⟨cs, rfl, ?_⟩
    have h' : (cs.size == Try.prog.cellsOf 64) = true := h
    rw [cellsW] at h'
    exact beq_iff_eq.1 h'
  · cases h
  · simp only [Try.underlying64] at h
    cases h
set_option maxRecDepth 100000 in
/-- What a key reads as tells it. -/
theorem key_inv {v : Value} {l : Lit} (h : keyOf Try.prog 64 v = some l) : ∃ k, InW k ∧ v = .agg (wgC k) := by
  obtain ⟨d, hd⟩ := typesN
  unfold keyOf at h
  simp only [Try.underlying64, keyT, Bool.true_and, hd] at h
  split at h
  · rename_i hf
    obtain ⟨cs, rfl, hf2⟩ := formed_wr hf
    obtain ⟨l⟩ := cs
    have hf' : l.length = 3 := hf2
    match l, hf' with
    | [a, b, c], _ =>
      cases e : Try.prog.keyLits (d + 3) 64 (Value.agg ⟨[a, b, c]⟩).cells.toList with
      | none => rw [e] at h; cases h
      | some ls =>
        obtain ⟨k, hk, hcs, _⟩ := (kl_wr d a b c ls).1 e
        refine ⟨k, hk, ?_⟩
        rw [hcs]
  · cases h
/-- A slice of the call's own: block, length, room. -/
abbrev Sl3 := Nat × Nat × Nat
def slv (b : Sl3) : Value := .slice (some ⟨b.1, 0, none⟩) b.2.1 b.2.2
def Rg (v : Value) : Option (DataW Value × List MemPlace) :=
  match v with
  | .slice (some ⟨_, 0, none⟩) _ _ => some (.held v, [])
  | _ => none
theorem Rg_slv (b : Sl3) : Rg (slv b) = some (.held (slv b), []) := rfl
theorem Rg_inv {v : Value} {y : DataW Value × List MemPlace} (h : Rg v = some y) : ∃ b, v = slv b ∧ y = (.held v, []) := by
  unfold Rg at h
  split at h
  · injection h with h
    exact ⟨(_, _, _), rfl, h.symm⟩
  · cases h
end Go.Proofs.Ytefomnlgpldgnaa
