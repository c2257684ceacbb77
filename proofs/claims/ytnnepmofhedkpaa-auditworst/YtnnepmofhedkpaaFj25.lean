/-
  Findings in memory; the calls that compare.
-/
import Derived.Test.YtnnepmofhedkpaaFi25
import Derived.Deep.RegionHeld3
namespace Go.Proofs.Ytnnepmofhedkpaa
open Go.RowKit
theorem below_drN {w w' : World} {B : Nat} (h : Below B w w') (n : Nat) : Below B w (w'.drewN n) := ⟨h.os, h.tape, h.output, h.size, h.block⟩
/-- A finding at an address. -/
def FiAt (w : World) (g o : Nat) (f : Fi) : Prop := ∀ j u, f.cs.toList[j]? = some u → w.cell? ⟨g, o + j, none⟩ = some u
theorem size_Fi : (Try.prog.info? 26).map (·.size) = some 8 := by kernel_rfl
theorem size_FiS (f : Fi) : (Try.prog.info? 26).map (·.size) = some f.cs.size := size_Fi
theorem fcs_one (f : Fi) : (f.cs.all fun x => x.oneCell') = true := by simp [Fi.cs, Value.oneCell']
theorem zero_Fi (w : World) : (zeroValue 26).run Try.prog w = .ok (.agg fi0.cs) w := by kernel_rfl
theorem cell_below {w w' : World} {p : Addr} {v : Value} (h : w.cell? p = some v) (hb : Below w.heap.size w w') : w'.cell? p = some v := by
  rw [hb.cell (p := p) (block_lt_of_cell h)]; exact h
theorem FiAt.below {w w' : World} {g o : Nat} {f : Fi} (H : FiAt w g o f) (hb : Below w.heap.size w w') : FiAt w' g o f := fun j u hj => cell_below (H j u hj) hb
theorem FiAt.ofB {w : World} {g : Nat} {f : Fi} (H : GB w g 26 f.cs) : FiAt w g 0 f := fun j u hj => by rw [Nat.zero_add, H.cell]; simpa using hj
theorem FiAt.run {w : World} {g o : Nat} {f : Fi} (H : FiAt w g o f) : (loadVar 26 ⟨g, o, none⟩).run Try.prog w = .ok (.agg f.cs) w := run_loadVar_at w g o 26 f.cs _ H Try.underlying26 rfl size_Fi
/-- The cells of a finding in a block of its own. -/
def FC (w : World) (g : Nat) (f : Fi) : Prop := w.cell? ⟨g, 0, none⟩ = some (.string f.ks) ∧ w.cell? ⟨g, 1, none⟩ = some (.int .i64 f.kd) ∧ w.cell? ⟨g, 4, none⟩ = some (.int .i64 f.wh) ∧ w.cell? ⟨g, 5, none⟩ = some (.int .i64 f.st) ∧ w.cell? ⟨g, 6, none⟩ = some (.int .i64 f.sp) ∧ w.cell? ⟨g, 7, none⟩ = some (.int .i64 f.si)
theorem GB.fc {w : World} {g : Nat} {f : Fi} (H : GB w g 26 f.cs) : FC w g f := ⟨H.cell 0, H.cell 1, H.cell 4, H.cell 5, H.cell 6, H.cell 7⟩
section
attribute [local irreducible] Calls
set_option maxRecDepth 1000000 in
theorem nani_any (x : Int) (w : World) : Calls Try.prog 16 #[.int .i64 x] w fun e w' => e = .returned (.bool false) ∧ w' = w := by
  have h : (x != x) = false := by simp
  go_enter Try.func16, Try.ntmps16
  go_wp2
  go_ret
  simp
set_option maxRecDepth 1000000 in
theorem nans_any (x : ByteArray) (w : World) : Calls Try.prog 17 #[.string x] w fun e w' => e = .returned (.bool false) ∧ w' = w := by
  go_enter Try.func17, Try.ntmps17
  go_wp2
  go_ret
  simp
set_option maxRecDepth 1000000 in
theorem cmpi_any (x y : Int) (w : World) : Calls Try.prog 13 #[.int .i64 x, .int .i64 y] w fun e w' => e = .returned (.int .i64 (cmpi x y)) ∧ w' = w := by
  unfold cmpi
  go_enter Try.func13, Try.ntmps13
  by_cases h : x < y
  · go_wp2_with (go_at_call 16; refine (nani_any _ _).mono ?_; rintro e w1 ⟨rfl, h⟩; obtain rfl := h.symm)
    go_ret
    simp
  · by_cases h2 : y < x
    · go_wp2_with (go_at_call 16; refine (nani_any _ _).mono ?_; rintro e w1 ⟨rfl, h⟩; obtain rfl := h.symm)
      go_ret
      simp
    · go_wp2_with (go_at_call 16; refine (nani_any _ _).mono ?_; rintro e w1 ⟨rfl, h⟩; obtain rfl := h.symm)
      go_ret
      simp
set_option maxRecDepth 1000000 in
theorem cmps_any (x y : ByteArray) (w : World) : Calls Try.prog 15 #[.string x, .string y] w fun e w' => e = .returned (.int .i64 (cmps x y)) ∧ w' = w := by
  unfold cmps sl
  go_enter Try.func15, Try.ntmps15
  cases h : Op.bytesLess x.toList y.toList with
  | true =>
    go_wp2_with (go_at_call 17; refine (nans_any _ _).mono ?_; rintro e w1 ⟨rfl, h⟩; obtain rfl := h.symm)
    go_ret
    simp
  | false =>
    cases h2 : x.toList == y.toList with
    | true =>
      go_wp2_with (go_at_call 17; refine (nans_any _ _).mono ?_; rintro e w1 ⟨rfl, h⟩; obtain rfl := h.symm)
      go_ret
      simp
    | false =>
      go_wp2_with (go_at_call 17; refine (nans_any _ _).mono ?_; rintro e w1 ⟨rfl, h⟩; obtain rfl := h.symm)
      go_ret
      simp
set_option maxRecDepth 1000000 in
theorem doubt_any (k : Int) (w : World) : Calls Try.prog 14 #[.int .i64 k] w fun e w' => e = .returned (.int .i64 (dbt k)) ∧ w' = w := by
  unfold dbt
  by_cases h : k = 2
  · subst h
    go_enter Try.func14, Try.ntmps14
    go_wp2
    go_ret
    simp
  · have h1 : (k == 2) = false := by simp [h]
    rw [if_neg h]
    by_cases h2 : k = 1
    · subst h2
      go_enter Try.func14, Try.ntmps14
      go_wp2
      go_ret
      simp
    · have h3 : (k == 1) = false := by simp [h2]
      rw [if_neg h2]
      go_enter Try.func14, Try.ntmps14
      go_wp2
      go_ret
      simp
set_option maxRecDepth 1000000 in
theorem rank_any (k : Int) (w : World) : Calls Try.prog 11 #[.int .i64 k] w fun e w' => e = .returned (.int .i64 (dbt k)) ∧ w' = w := by
  unfold dbt
  by_cases h : k = 2
  · subst h
    go_enter Try.func11, Try.ntmps11
    go_wp2
    go_ret
    simp
  · have h1 : (k == 2) = false := by simp [h]
    rw [if_neg h]
    by_cases h2 : k = 1
    · subst h2
      go_enter Try.func11, Try.ntmps11
      go_wp2
      go_ret
      simp
    · have h3 : (k == 1) = false := by simp [h2]
      rw [if_neg h2]
      go_enter Try.func11, Try.ntmps11
      go_wp2
      go_ret
      simp
theorem or4_at (f : Nat → Int) (t : Nat) (ht : t < 4) (hz : ∀ j, j < t → f j = 0) (hf : ¬ f t = 0) : (if f 0 = 0 then if f 1 = 0 then if f 2 = 0 then f 3 else f 2 else f 1 else f 0) = f t := by
  match t, ht with
  | 0, _ => rw [if_neg hf]
  | 1, _ => rw [if_pos (hz 0 (by decide)), if_neg hf]
  | 2, _ => rw [if_pos (hz 0 (by decide)), if_pos (hz 1 (by decide)), if_neg hf]
  | 3, _ => rw [if_pos (hz 0 (by decide)), if_pos (hz 1 (by decide)), if_pos (hz 2 (by decide))]
theorem or4_all (f : Nat → Int) (hz : ∀ j, j < 4 → f j = 0) : (if f 0 = 0 then if f 1 = 0 then if f 2 = 0 then f 3 else f 2 else f 1 else f 0) = 0 := by
  rw [if_pos (hz 0 (by decide)), if_pos (hz 1 (by decide)), if_pos (hz 2 (by decide)), hz 3 (by decide)]
set_option maxRecDepth 1000000 in
theorem or_any (p q r s : Int) (g : Nat) (w : World) (h0 : w.cell? ⟨g, 0, none⟩ = some (.int .i64 p)) (h1 : w.cell? ⟨g, 1, none⟩ = some (.int .i64 q)) (h2 : w.cell? ⟨g, 2, none⟩ = some (.int .i64 r)) (h3 : w.cell? ⟨g, 3, none⟩ = some (.int .i64 s)) :
    Calls Try.prog 12 #[.slice (some ⟨g, 0, none⟩) 4 4] w fun e w' => e = .returned (.int .i64 (or4 p q r s)) ∧ w' = w := by
  unfold or4
  let f : Nat → Int := fun i => if i = 0 then p else if i = 1 then q else if i = 2 then r else s
  have hc : ∀ i, i < 4 → w.cell? ⟨g, i, none⟩ = some (.int .i64 (f i)) := by
    intro i hi
    match i, hi with
    | 0, _ => exact h0
    | 1, _ => exact h1
    | 2, _ => exact h2
    | 3, _ => exact h3
  have hR : (or4 p q r s) = (if f 0 = 0 then if f 1 = 0 then if f 2 = 0 then f 3 else f 2 else f 1 else f 0) := rfl
  unfold or4 at hR
  rw [hR]
  clear hR
  clear_value f
  generalize hR : (if f 0 = 0 then if f 1 = 0 then if f 2 = 0 then f 3 else f 2 else f 1 else f 0) = R
  have HR := (show Hid ((if f 0 = 0 then if f 1 = 0 then if f 2 = 0 then f 3 else f 2 else f 1 else f 0) = R) from hR)
  clear hR
  clear h0 h1 h2 h3
  have HC := (show Hid _ from hc)
  clear hc
  go_enter Try.func12, Try.ntmps12
  go_wp2
  go_loopw [8] (fun i wr => ∃ t : Nat, t ≤ 4 ∧ i = .int .i64 (t : Int) ∧ Hid (∀ j, j < t → f j = 0) ∧ wr = w) (fun i _ => 4 - (intOf i).toNat)
  case atStart => exact ⟨0, by omega, rfl, fun j hj => absurd hj (Nat.not_lt_zero j), rfl⟩
  case round =>
    obtain ⟨t, ht, rfl, hz, rfl⟩ := hrel
    by_cases hlt : t < 4
    · have hi : (t : Int) < 4 := by omega
      have hct := HC.out t hlt
      by_cases hf : f t = 0
      · have d0 : (f t != 0) = false := by simp [hf]
        go_wp2
        refine ⟨⟨t + 1, by omega, by simp, fun j hj => ?_, trivial⟩, by simp [intOf]; omega⟩
        rcases Nat.lt_or_ge j t with h | h
        · exact hz.out j h
        · have e : j = t := by omega
          rw [e]; exact hf
      · have d0 : (f t != 0) = true := by simp [hf]
        go_wp2
        go_ret
        have := or4_at f t hlt hz.out hf
        rw [HR.out] at this
        subst this
        exact ⟨rfl, rfl⟩
    · have hi : ¬ (t : Int) < 4 := by omega
      go_wp2
      go_ret
      have := or4_all f (fun j hj => hz.out j (by omega))
      rw [HR.out] at this
      subst this
      exact ⟨rfl, rfl⟩
theorem or_new (p q r s : Int) (t : TypeId) (fr : Nat × Nat) (w : World) : Calls Try.prog 12 #[.slice (some ⟨w.heap.size, 0, none⟩) 4 4] (w.alloc (.cells #[.int .i64 p, .int .i64 q, .int .i64 r, .int .i64 s] t fr)).drew fun e w' => e = .returned (.int .i64 (or4 p q r s)) ∧ Below w.heap.size w w' := by
  have c := fun i => cell_of_row (w.alloc (.cells #[.int .i64 p, .int .i64 q, .int .i64 r, .int .i64 s] t fr)) w.heap.size i _ _ fr (heap_alloc_new w _)
  have al : Below w.heap.size w (w.alloc (.cells #[.int .i64 p, .int .i64 q, .int .i64 r, .int .i64 s] t fr)) := (Below.refl _ _).alloc (Nat.le_refl _) _
  refine (or_any p q r s w.heap.size (w.alloc (.cells #[.int .i64 p, .int .i64 q, .int .i64 r, .int .i64 s] t fr)).drew (c 0) (c 1) (c 2) (c 3)).mono ?_
  rintro e w1 ⟨h1, rfl⟩
  exact ⟨h1, al.drew⟩
end
end Go.Proofs.Ytnnepmofhedkpaa
