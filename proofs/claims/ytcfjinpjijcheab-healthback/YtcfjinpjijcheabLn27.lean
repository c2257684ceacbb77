/-
  The law's lentNumbers and unmarkedNumbers.
-/
import Derived.Test.YtcfjinpjijcheabCk27
namespace Go.Proofs.Ytcfjinpjijcheab
open Go.RowKit
/-- The marks behind what is lent. -/
def mkf (j : Nat) : Nat := fad (floatOfInt .f64 (j : Int)) 4598175219545276416
def mkl (k : Nat) : List Nat := (List.range k).map mkf
theorem mkl_len (k : Nat) : (mkl k).length = k := by simp [mkl]
theorem mkl_succ (k : Nat) : mkl (k + 1) = mkl k ++ [mkf k] := by unfold mkl; rw [List.range_succ, List.map_append]; rfl
theorem mkl_get (k i : Nat) (h : i < k) : (mkl k).getD i 0 = mkf i := by simp [mkl, List.getD, h]
theorem mkf_all : (List.range 64).all (fun j => (F6.add (floatOfInt .f64 ((j : Nat) : Int)) 4598175219545276416).isSome && (F6.order (mkf j) (mkf j) == some .eq)) = true := by decide +kernel
theorem mkf_add (j : Nat) (h : j < 64) : floatBits .add .f64 (floatOfInt .f64 (j : Int)) 4598175219545276416 = some (mkf j) := by
  have := List.all_eq_true.1 mkf_all j (List.mem_range.2 h)
  rw [Bool.and_eq_true] at this
  obtain ⟨r, hr⟩ := Option.isSome_iff_exists.1 this.1
  have e : mkf j = r := by unfold mkf fad; rw [hr, Option.getD_some]
  rw [e]; exact hr
theorem mkf_self (j : Nat) (h : j < 64) : (FloatKind.f64.format.order (mkf j) (mkf j) == some .eq) = true := by
  have := List.all_eq_true.1 mkf_all j (List.mem_range.2 h)
  rw [Bool.and_eq_true] at this
  exact this.2
theorem order_self (f : Ieee.Format) (x : Nat) : f.order x x = none ∨ f.order x x = some .eq := by
  unfold Ieee.Format.order
  cases f.read x with
  | number s m i => right; simp [Ieee.Datum.order]
  | infinity s => right; simp [Ieee.Datum.order]
  | nan s t => left; rfl
/-- Numbers that are lent: a row of its own, with marks behind. -/
def LnF (w : World) (base : Nat) (v : Value) (xs : List Nat) : Prop := ∃ g cap, v = .slice (some ⟨g, 0, none⟩) xs.length cap ∧ Of w base (.slice (some ⟨g, 0, none⟩) (xs.length + 64) cap) (xs ++ mkl 64)
theorem Of.some {w : World} {base : Nat} {v : Value} {xs : List Nat} (h : Of w base v xs) (h0 : 0 < xs.length) : ∃ g cap, v = .slice (some ⟨g, 0, none⟩) xs.length cap ∧ xs.length ≤ cap := by
  unfold Of at h
  rw [fc_len] at h
  rcases h.2 with ⟨_, h1⟩ | ⟨g, cap, cur, hv, _, _, hn, _⟩
  · omega
  · exact ⟨g, cap, hv, hn⟩
theorem LnF.below {w w' : World} {base : Nat} {v : Value} {xs : List Nat} (h : LnF w base v xs) (hb : Below w.heap.size w w') : LnF w' base v xs := by
  obtain ⟨g, cap, e, hO⟩ := h
  exact ⟨g, cap, e, hO.below hb⟩
theorem LnF.rd {w : World} {base : Nat} {v : Value} {xs : List Nat} (h : LnF w base v xs) : ∃ g cap, v = .slice (Option.some ⟨g, 0, none⟩) xs.length cap ∧ xs.length + 64 ≤ cap ∧ base ≤ g ∧ g < w.heap.size ∧ ∀ i, i < xs.length + 64 → w.cell? ⟨g, 0 + i, none⟩ = Option.some (.float .f64 ((xs ++ mkl 64).getD i 0)) := by
  obtain ⟨g, cap, rfl, hO⟩ := h
  have hl : (xs ++ mkl 64).length = xs.length + 64 := by rw [List.length_append, mkl_len]
  have hlt := hO.lt g rfl
  obtain ⟨p, c, hv, hc, hr⟩ := hO.rd
  rw [hl] at hv hc
  injection hv with e1 e2 e3
  subst e1 e3
  obtain ⟨b, o, e, hcell⟩ := Fr.at hr (by omega)
  injection e with e
  injection e with e1 e2
  subst e1 e2
  exact ⟨g, cap, rfl, hc, hlt.1, hlt.2, fun i hi => hcell i (by omega)⟩
/-- A number of what is lent is written over. -/
theorem LnF.set {w : World} {base g n cap : Nat} {xs : List Nat} (h : LnF w base (.slice (Option.some ⟨g, 0, none⟩) n cap) xs) (hn : xs.length = n) (j b : Nat) (hj : j < n) : LnF (w.setCell ⟨g, j, none⟩ (.float .f64 b)) base (.slice (Option.some ⟨g, 0, none⟩) n cap) (xs.set j b) ∧ w.frozen? ⟨g, j, none⟩ = false ∧ base ≤ g := by
  obtain ⟨g', cap', e, hO⟩ := h
  injection e with e1 e2 e3
  injection e1 with e1
  injection e1 with e1
  subst e1 e3 hn
  have hl : (fc (xs ++ mkl 64)).length = xs.length + 64 := by rw [fc_len, List.length_append, mkl_len]
  have hb := (hO.lt g rfl).1
  unfold Of at hO
  rw [hl] at hO
  refine ⟨⟨g, cap, by rw [List.length_set], ?_⟩, hO.frozenAt j, hb⟩
  have h1 := (hO.stored j (.float .f64 b)).1
  unfold Of
  rw [fc_len, List.length_append, List.length_set, mkl_len]
  have e : fc (xs.set j b ++ mkl 64) = (fc (xs ++ mkl 64)).set j (.float .f64 b) := by
    unfold fc
    rw [← List.map_set, List.set_append_left _ _ hj]
  rw [e]
  exact h1
section
attribute [local irreducible] Calls mkf fad mkl
end
end Go.Proofs.Ytcfjinpjijcheab
