/-
  VotesJudges.
-/
import Derived.Test.YtefomnlgpldgnaaVx17
namespace Go.Proofs.Ytefomnlgpldgnaa
open Go.RowKit
theorem plc_like {s s' : Shs} {n : Nat} (h : ∀ i, i < n → s i = s' i) (k : Wg) : plc s n k = plc s' n k := List.filter_congr fun i hi => by
  unfold sh
  rw [h i (List.mem_range.1 hi)]
theorem kys_like {s s' : Shs} {n : Nat} (h : ∀ i, i < n → s i = s' i) : ∀ m, m ≤ n → kys s m = kys s' m
  | 0, _ => rfl
  | m + 1, hm => by
    unfold kys
    rw [h m (by omega), kys_like h m (by omega)]
theorem grps_like {s s' : Shs} {n : Nat} (h : ∀ i, i < n → s i = s' i) : grps s n = grps s' n := by
  unfold grps
  rw [kys_like h n (Nat.le_refl _)]
  exact List.map_congr_left fun k _ => by rw [plc_like h]
theorem hid_like {s s' : Shs} {n : Nat} (h : ∀ i, i < n → s i = s' i) : hid s n = hid s' n := by
  have e : hds s n = hds s' n := List.filter_congr fun i hi => by
    unfold hdn
    rw [h i (List.mem_range.1 hi)]
  unfold hid
  rw [e]
theorem jdg_like {s s' : Shs} {n : Nat} (h : ∀ i, i < n → s i = s' i) (k m b : Int) : jdg k m b s n = jdg k m b s' n := by
  unfold jdg
  rw [grps_like h, hid_like h]
theorem jdg_len (k m b : Int) (s : Shs) (n : Nat) : (jdg k m b s n).pl.length ≤ n := by
  unfold jdg
  split
  · unfold vjd
    split
    · rename_i p hp
      exact (isG_grps s n).len p (List.mem_of_find?_eq_some hp)
    · split <;> exact Nat.zero_le _
  · exact Nat.zero_le _
theorem size_Vd' (kd : Int) (k : Wg) (v : Value) : (Try.prog.info? 42).map (·.size) = some (vdC kd k v).size := size_Vd
theorem vdC_same (kd kd' : Int) (k k' : Wg) (v v' : Value) : (vdC kd k v).size = (vdC kd' k' v').size := rfl
section
attribute [local irreducible] Calls GB On Rn shC LSn vdC
end
end Go.Proofs.Ytefomnlgpldgnaa
