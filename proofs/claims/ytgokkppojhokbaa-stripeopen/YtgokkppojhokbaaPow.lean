/-
  Contracts of package field's powers and logarithms, inverses and quotients.
-/
import Derived.Test.YtgokkppojhokbaaFld
import Derived.Deep.WholeRow
import Derived.Deep.QuietTactic
import Derived.BigQuiet
import Derived.Laws.ResultCell
import Derived.Great.BuildSlice
namespace Go.Proofs.Ytgokkppojhokbaa
open Go.RowKit

def pwC : Array Value := (pws.map fun a => Value.int .u8 (el a)).toArray
theorem info56 : (Try.prog.info? 134).map (fun i => (i.zero, i.size)) = some (some (.agg (Array.replicate 255 (.int .u8 0))), 255) := by kernel_rfl
theorem zero56 : ∀ w, (zeroValue 134).run Try.prog w = .ok (.agg (Array.replicate 255 (.int .u8 0))) w := (zero_of_info info56).1
theorem size56 : (Try.prog.info? 134).map (·.size) = some 255 := (zero_of_info info56).2
theorem pwC_size : pwC.size = 255 := by decide +kernel
theorem pwC_one : pwC.all (·.oneCell') = true := by decide +kernel

def pwI : List Int := pws.map el
theorem pwI_eq : (pwI.map (Value.int .u8)).toArray = pwC := by unfold pwI pwC; rw [List.map_map]; rfl
/-- An operation whose run is told outright. -/
theorem wpList_told {P : Program} {ops : Array Oper} {rest : List Oper} {o : Oper} {a : Act} {w : World} {Q : Exit → Act → World → Prop} (hg : o.guard = none) (v : Value) (w' : World)
    (hrun : (execOp a.eval o).run P w = .ok (.value v) w') (h : wpList P ops Q rest (a.put o.dst v) w') : wpList P ops Q (o :: rest) a w := by
  refine wpList_plain hg fun K hK => ?_
  unfold Oper.wp; rw [hrun, Oper.upon_value]; exact hK _ _ h
section
attribute [local irreducible] wpList Code.wp pwI pwC
set_option maxRecDepth 1000000 in
theorem powers_any (w : World) :
    Calls Try.prog 88 #[] w fun e w' => e = .returned (.agg pwC) ∧ w' = w.alloc (.cells pwC 134) := by
  go_enter Try.func88, Try.ntmps88
  apply wp_seq_k; intro K0 hK0
  apply wp_region_lit
  refine wpList_told rfl (.pointer (some ⟨w.heap.size, 0, none⟩)) (w.alloc (.cells (Array.replicate 255 (.int .u8 0)) 134)) (by kernel_rfl) ?_
  apply wpList_nil
  refine hK0 _ _ ?_
  clear hK0 K0
  apply wp_seq_k; intro K0 hK0
  apply wp_region_lit
  refine wpList_buildFlatArrTo rfl 134 83 255 _ rfl .u8 pwI (some 1) rfl (by kernel_rfl) (by kernel_rfl) (by kernel_rfl) (by kernel_rfl) ?_
  rw [pwI_eq]
  refine wpList_store_rowTo rfl 134 _ _ rfl rfl w.heap.size pwC (by kernel_rfl) (by kernel_rfl) 134 (Array.replicate 255 (.int .u8 0)) (heap_alloc_last _ _) (by kernel_rfl) (by kernel_rfl) pwC_one ?_
  rw [World.setRow_alloc_new]
  apply wpList_nil
  refine hK0 _ _ ?_
  clear hK0 K0
  go_wp2
  refine bodyPost_ret (v := .agg pwC) ?_ rfl ⟨rfl, rfl⟩
  exact results_cell_row rfl _ _ w.heap.size 134 pwC (0, 0) (.array 255 83) (by kernel_rfl) (heap_alloc_last _ _) (by kernel_rfl) rfl (by kernel_rfl)
end

theorem pwC_get (k : Nat) (h : k < 255) : pwC[k]? = some (.int .u8 (el (pw k))) := by
  unfold pwC; rw [List.getElem?_toArray, List.getElem?_map, pws_get k h]; rfl
theorem pwC_cell (w : World) (k : Nat) (h : k < 255) : (w.alloc (.cells pwC 134)).cell? ⟨w.heap.size, k, none⟩ = some (.int .u8 (el (pw k))) := by
  rw [cell_of_row _ _ k pwC _ (0, 0) (heap_alloc_last w _)]; exact pwC_get k h
def pwM (n : Int) : BitVec 8 := pw (n % 255).toNat

theorem pw_store (w : World) : (storeCells ⟨w.heap.size + 1, 0, none⟩ pwC.toList).run Try.prog ((w.alloc (.cells pwC 134)).alloc (.cells (Array.replicate 255 (.int .u8 0)) 134)) = .ok () ((w.alloc (.cells pwC 134)).alloc (.cells pwC 134)) := by
  have h := run_storeCells_new (P := Try.prog) (w.alloc (.cells pwC 134)) 134 (Array.replicate 255 (.int .u8 0)) pwC (by rw [pwC_size]; exact size56) (by rw [pwC_size]; simp) pwC_one
  rwa [World.size_alloc] at h
theorem pw_cell2 (w : World) (k : Nat) (h : k < 255) : ((w.alloc (.cells pwC 134)).alloc (.cells pwC 134)).cell? ⟨w.heap.size + 1, k, none⟩ = some (.int .u8 (el (pw k))) := by
  have h := pwC_cell (w.alloc (.cells pwC 134)) k h
  rwa [World.size_alloc] at h

set_option maxRecDepth 1000000 in
theorem exp_any (n : Int) (w : World) :
    Calls Try.prog 86 #[.int .i64 n] w fun e w' => e = .returned (.int .u8 (el (pwM n))) ∧ Below w.heap.size w w' := by
  have hz := zero56
  have h0 : 0 ≤ n % 255 := by omega
  have h1 : n % 255 < 255 := by omega
  have hs := pwC_size
  have hst := pw_store w
  have hc := pw_cell2 w (n % 255).toNat (by omega)
  go_enter Try.func86, Try.ntmps86
  go_wp2_with (first | (go_at_call 88; refine (powers_any _).mono ?_; rintro e w' ⟨rfl, rfl⟩) | (go_at_call 87; refine (residue_any _ _).mono ?_; rintro e w' ⟨rfl, rfl⟩))
  go_ret
  exact ⟨rfl, ((Below.refl _ _).alloc (Nat.le_refl _) _).alloc (by simp) _⟩

theorem lgV_ne {a : BitVec 8} (h : a ≠ 0#8) : lg a < 255 := lg_lt h
theorem pw_before {a : BitVec 8} {k : Nat} (h : k < lg a) (h2 : k < 255) : (el (pw k) == el a) = false := by
  rw [el_beq, beq_eq_false_iff_ne]
  intro e
  have := lg_pw k h2
  rw [e] at this; omega
theorem pw_at {a : BitVec 8} (h : a ≠ 0#8) : (el (pw (lg a)) == el a) = true := by
  rw [el_beq, pw_lg h]; simp

set_option maxRecDepth 1000000 in
theorem log_any (a : BitVec 8) (ha : a ≠ 0#8) (w : World) :
    Calls Try.prog 85 #[.int .u8 (el a)] w fun e w' => e = .returned (.tuple #[.int .i64 (lg a), .int .i64 0]) ∧ Below w.heap.size w w' := by
  have hz := zero56
  have hs := pwC_size
  have hst := pw_store w
  have hlg := lg_lt ha
  go_enter Try.func85, Try.ntmps85
  go_wp2_with (first | (go_at_call 88; refine (powers_any _).mono ?_; rintro e w' ⟨rfl, rfl⟩))
  clear hz hs hst
  go_loopw [8] (fun i wr => ∃ k : Nat, k ≤ lg a ∧ i = .int .i64 k ∧ Hid (∀ k, k < 255 → wr.cell? ⟨w.heap.size + 1, k, none⟩ = some (.int .u8 (el (pw k)))) ∧ Below w.heap.size w wr) (fun i _ => 255 - (intOf i).toNat)
  case atStart => exact ⟨0, Nat.zero_le _, rfl, fun k hk => pw_cell2 w k hk, ((Below.refl _ _).alloc (Nat.le_refl _) _).alloc (by simp) _⟩
  case round =>
    obtain ⟨k, hk, rfl, HC, hb⟩ := hrel
    have hc := HC.out k (by omega)
    have hi : (k : Int) < 255 := by omega
    by_cases hlt : k < lg a
    · have ht := pw_before hlt (by omega)
      go_wp2
      go_quiet (fail)
      go_wp2
      go_roundw
      case rel => exact ⟨k + 1, by omega, by go_num, fun j hj => by simpa using HC.out j hj, below_drewN hb _⟩
      case measure => simp [intOf]; omega
    · obtain rfl : k = lg a := by omega
      have ht := pw_at ha
      go_wp2
      go_quiet (fail)
      go_wp2
      go_ret2
      exact ⟨rfl, below_drewN hb _⟩

theorem pw_nz (k : Nat) : (el (pw k) == el 0#8) = false := by
  rw [el_beq, beq_eq_false_iff_ne]; exact pw_ne k
set_option maxRecDepth 1000000 in
theorem log_zero (w : World) :
    Calls Try.prog 85 #[.int .u8 (el 0#8)] w fun e w' => e = .returned (.tuple #[.int .i64 0, .int .i64 10]) ∧ Below w.heap.size w w' := by
  have hz := zero56
  have hs := pwC_size
  have hst := pw_store w
  go_enter Try.func85, Try.ntmps85
  go_wp2_with (first | (go_at_call 88; refine (powers_any _).mono ?_; rintro e w' ⟨rfl, rfl⟩))
  clear hz hs hst
  go_loopw [8] (fun i wr => ∃ k : Nat, k ≤ 255 ∧ i = .int .i64 k ∧ Hid (∀ k, k < 255 → wr.cell? ⟨w.heap.size + 1, k, none⟩ = some (.int .u8 (el (pw k)))) ∧ Below w.heap.size w wr) (fun i _ => 255 - (intOf i).toNat)
  case atStart => exact ⟨0, Nat.zero_le _, rfl, fun k hk => pw_cell2 w k hk, ((Below.refl _ _).alloc (Nat.le_refl _) _).alloc (by simp) _⟩
  case round =>
    obtain ⟨k, hk, rfl, HC, hb⟩ := hrel
    by_cases hlt : k < 255
    · have hc := HC.out k (by omega)
      have ht := pw_nz k
      go_wp2
      go_quiet (fail)
      go_wp2
      go_roundw
      case rel => exact ⟨k + 1, by omega, by go_num, fun j hj => by simpa using HC.out j hj, below_drewN hb _⟩
      case measure => simp [intOf]; omega
    · go_wp2
      go_ret2
      exact ⟨rfl, hb⟩

/-- The power, for every number. -/
def gpow (a : BitVec 8) (n : Int) : BitVec 8 := if n = 0 then 1#8 else if a = 0#8 then 0#8 else pwM (lg a * (n % 255))
theorem lgn_wrap (a : BitVec 8) (ha : a ≠ 0#8) (n : Int) : wrap64 ((lg a : Int) * (n % 255)) = (lg a : Int) * (n % 255) := by
  have h1 := lg_lt ha
  have h2 : 0 ≤ n % 255 := by omega
  have h3 : n % 255 < 255 := by omega
  have h4 : 0 ≤ (lg a : Int) * (n % 255) := Int.mul_nonneg (by omega) h2
  have h5 : (lg a : Int) * (n % 255) ≤ 255 * 255 := Int.mul_le_mul (by omega) (by omega) h2 (by omega)
  unfold wrap64; omega

set_option maxRecDepth 1000000 in
theorem pow_any (a : BitVec 8) (n : Int) (w : World) :
    Calls Try.prog 84 #[.int .u8 (el a), .int .i64 n] w fun e w' => e = .returned (.int .u8 (el (gpow a n))) ∧ Below w.heap.size w w' := by
  by_cases hn : n = 0
  · subst hn
    go_enter Try.func84, Try.ntmps84
    go_wp2
    go_ret
    exact ⟨rfl, Below.refl _ _⟩
  · have hn' : (n == 0) = false := by simpa using hn
    by_cases ha : a = 0#8
    · subst ha
      go_enter Try.func84, Try.ntmps84
      go_wp2_with (go_at_call 85; refine (log_zero _).mono ?_; rintro e w' ⟨rfl, hb⟩)
      go_ret
      exact ⟨by unfold gpow; rw [if_neg hn, if_pos rfl]; rfl, ‹_›⟩
    · go_enter Try.func84, Try.ntmps84
      go_wp2_with (first | (go_at_call 85; refine (log_any _ ha _).mono ?_; rintro e w' ⟨rfl, hb⟩) | (go_at_call 87; refine (residue_any _ _).mono ?_; rintro e w' ⟨rfl, rfl⟩) | (go_at_call 86; refine (exp_any _ _).mono ?_; rintro e w' ⟨rfl, hb2⟩))
      go_ret
      exact ⟨ret_int (by unfold gpow; rw [if_neg hn, if_neg ha]; rw [lgn_wrap a ha n]), hb.trans (hb2.mono hb.size)⟩

theorem gpow_neg {a : BitVec 8} (ha : a ≠ 0#8) : gpow a (-1) = inv a := by
  unfold gpow inv
  rw [if_neg (by omega), if_neg ha, show (-1 : Int) % 255 = 254 from rfl]
  unfold pwM
  rw [show ((lg a : Int) * 254 % 255).toNat = (lg a * 254) % 255 by omega, pw_mod]

theorem inverse_any (a : BitVec 8) (ha : a ≠ 0#8) (w : World) :
    Calls Try.prog 83 #[.int .u8 (el a)] w fun e w' => e = .returned (.tuple #[.int .u8 (el (inv a)), .bool true]) ∧ Below w.heap.size w w' := by
  have h0 : (a == 0#8) = false := by simpa using ha
  go_enter Try.func83, Try.ntmps83
  go_wp2_with (first | (go_at_call 61; refine (isZero_any _ _).mono ?_; rintro e w' ⟨rfl, rfl⟩) | (go_at_call 84; refine (pow_any _ _ _).mono ?_; rintro e w' ⟨rfl, hb⟩))
  go_ret2
  exact ⟨by rw [← gpow_neg ha]; rfl, hb⟩
theorem inverse_zero (w : World) :
    Calls Try.prog 83 #[.int .u8 (el 0#8)] w fun e w' => e = .returned (.tuple #[.int .u8 0, .bool false]) ∧ w' = w := by
  have h0 : (0#8 == 0#8) = true := rfl
  go_enter Try.func83, Try.ntmps83
  go_wp2_with (first | (go_at_call 61; refine (isZero_any _ _).mono ?_; rintro e w' ⟨rfl, rfl⟩))
  go_ret2
  exact ⟨rfl, rfl⟩
end Go.Proofs.Ytgokkppojhokbaa
