/-
  Package crc: 'halves', 'over'.
-/
import Derived.Test.YtjobaeopokfekaaGreatCs
import Derived.Laws.CopyOwn
namespace Go.Proofs.YtjobaeopokfekaaGreat
open Go.RowKit Go.Great
/-- A world in which only the block g has turned. -/
def Turned (g : Nat) (w w' : World) : Prop := (∀ k, k ≠ g → w'.heap[k]? = w.heap[k]?) ∧ (∀ B w0, Below B w0 w → B ≤ g → Below B w0 w') ∧ w'.heap.size = w.heap.size
theorem Turned.ar {g : Nat} {w w' : World} (h : Turned g w w') {t : TypeId} {b n : Nat} {f : Nat → BitVec 32} (ha : Ar w t b f n) (hb : b ≠ g) : Ar w' t b f n := by
  unfold Ar at ha ⊢; rw [h.1 b hb]; exact ha
theorem wpList_loadAr {P : Program} {w : World} {ops : Array Oper} {rest : List Oper} {o : Oper} {a : Act} {Q : Exit → Act → World → Prop} (hgd : o.guard = none) (ty : TypeId) (x : Operand) (ho : o.op = .load ty x)
    (g : Nat) (hx : a.eval x = .pointer (some ⟨g, 0, none⟩)) (t : TypeId) (f : Nat → BitVec 32) (n : Nat) (e : TypeId) (hA : Ar w t g f n)
    (hu : P.underlying ty = some (.array n e)) (hi : (P.info? ty).map (·.size) = some n)
    (h : wpList P ops Q rest (a.put o.dst (.agg (arC f n))) w) : wpList P ops Q (o :: rest) a w :=
  wpList_load_row hgd ty x ho g hx t (arC f n) (0, 0) (.array n e) hA hu rfl (by rw [arC_size]; exact hi) h
theorem wpList_storeAr {P : Program} {w : World} {ops : Array Oper} {rest : List Oper} {o : Oper} {a : Act} {Q : Exit → Act → World → Prop} (hgd : o.guard = none) (ty : TypeId) (x y : Operand) (ho : o.op = .store ty x y)
    (hd : o.dst = none) (g : Nat) (f f0 : Nat → BitVec 32) (n : Nat) (hx : a.eval x = .pointer (some ⟨g, 0, none⟩)) (hy : a.eval y = .agg (arC f n))
    (t : TypeId) (hA : Ar w t g f0 n) (hi : (P.info? ty).map (·.size) = some n)
    (h : ∀ w', Ar w' t g f n → Turned g w w' → wpList P ops Q rest a w') : wpList P ops Q (o :: rest) a w := by
  refine wpList_store_rowTo hgd ty x y ho hd g (arC f n) hx hy t (arC f0 n) hA (by rw [arC_size]; exact hi) (by rw [arC_size, arC_size]) (arC_one _ _) ?_
  refine h _ ?_ ⟨fun k hk => setRow_other w g k _ hk, fun B w0 hb hB => below_setRow hb hB _, by simp⟩
  unfold Ar at hA ⊢
  exact setRow_heap w g _ _ t _ hA
def hvs (i : Nat) : BitVec 32 := stps 4 (BitVec.ofNat 32 i)
theorem rg_nat (k : Nat) (h : k < 4294967296) : rg (BitVec.ofNat 32 k) = k := by unfold rg; rw [BitVec.toNat_ofNat, Nat.mod_eq_of_lt (by omega)]
section
attribute [local irreducible] Calls rg stps Ar arC
theorem steps4_nat (k : Nat) (hk : k < 4294967296) (w : World) :
    Calls Tryz.prog 92 #[.int .u32 (k : Int), .int .i64 4] w fun e w' => e = .returned (.int .u32 (rg (hvs k))) ∧ w' = w := by
  have h := steps_any (BitVec.ofNat 32 k) 4 (by omega) w
  rw [rg_nat k hk] at h
  exact h
set_option maxRecDepth 1000000 in
theorem halves_any (w : World) :
    Calls Tryz.prog 82 #[] w fun e w' => e = .returned (.agg (arC hvs 16)) ∧ Below w.heap.size w w' := by
  have hz := zero63
  go_enter Tryz.func82, Tryz.ntmps82
  go_wp2
  clear hz
  go_loopw [2, 3] (fun _ i wr => ∃ k : Nat, k ≤ 16 ∧ i = .int .i64 k ∧ Ar wr 136 w.heap.size (fun _ => 0#32) 16 ∧ Ar wr 136 (w.heap.size + 1) (fun i => if i < k then hvs i else 0#32) 16 ∧ Below w.heap.size w wr) (fun _ i _ => 16 - (intOf i).toNat)
  case atStart =>
    have h1 := ar_new w 16 136
    have h2 := ar_new (w.alloc (.cells (Array.replicate 16 (.int .u32 0)) 136)) 16 136
    rw [World.size_alloc] at h2
    exact ⟨0, Nat.zero_le _, rfl, h1.below ((Below.refl _ _).alloc (Nat.le_refl _) _), h2, ((Below.refl _ _).alloc (Nat.le_refl _) _).alloc (by simp) _⟩
  case round =>
    obtain ⟨k, hk, rfl, hA, hO, hb⟩ := hrel
    by_cases hlt : k < 16
    · have hi : (k : Int) < 16 := by omega
      have g3 := hO.cell hlt
      have g4 := hO.frozen k
      have hmod : (k : Int) % 4294967296 = k := by omega
      go_wp2_with (go_at_call 92; refine (steps4_nat k (by omega) _).mono ?_; rintro e w' ⟨rfl, rfl⟩)
      go_roundw
      case rel => exact ⟨k + 1, by omega, by go_num, hA.other (p := ⟨w.heap.size + 1, k, none⟩) (by simp) rfl, hO.fill hlt rfl, hb.setCell (by simp) _⟩
      case measure => simp [intOf]; omega
    · obtain rfl : k = 16 := by omega
      have hO2 : Ar wr 136 (w.heap.size + 1) hvs 16 := hO.congr (fun i hi => by rw [if_pos hi])
      clear hO
      go_wp2_with (first | (refine wpList_loadAr rfl 136 _ rfl (w.heap.size + 1) rfl 136 hvs 16 125 hO2 (by kernel_rfl) size63 ?_) | (refine wpList_storeAr rfl 136 _ _ rfl rfl w.heap.size hvs _ 16 rfl rfl 136 hA size63 ?_; intro w3 hA3 hT3))
      refine bodyPost_ret (v := .agg (arC hvs 16)) ?_ rfl ⟨rfl, hT3.2.1 _ _ hb (Nat.le_refl _)⟩
      unfold Ar at hA3
      exact results_cell_row rfl _ _ w.heap.size 136 (arC hvs 16) (0, 0) (.array 16 125) (by kernel_rfl) hA3 (by kernel_rfl) rfl (by rw [arC_size]; exact size63)
end
theorem el_rg (x : BitVec 8) : el x = rg (x.setWidth 32) := by
  unfold el rg; rw [BitVec.toNat_setWidth, Nat.mod_eq_of_lt (by have := x.isLt; omega)]
theorem nib (R : BitVec 32) : ∃ m : Nat, m < 16 ∧ bits .and .u32 (rg R) 15 = (m : Int) ∧ hvs m = stps 4 (R &&& 15#32) := by
  refine ⟨(R &&& 15#32).toNat, ?_, ?_, ?_⟩
  · rw [BitVec.toNat_and]; exact Nat.lt_of_le_of_lt Nat.and_le_right (by decide)
  · rw [show (15 : Int) = rg 15#32 from rfl, rg_and]; rfl
  · unfold hvs; rw [BitVec.ofNat_toNat, BitVec.setWidth_eq]
theorem ls_succ (f : Nat → BitVec 8) (n : Nat) : ls f (n + 1) = ls f n ++ [f n] := by
  unfold ls; rw [List.range_succ, List.map_append]; rfl
section
attribute [local irreducible] Calls rg stps Ar arC el ov hvs
set_option maxHeartbeats 1000000 in
set_option maxRecDepth 1000000 in
theorem over_core (r : BitVec 32) (b1 o1 n c1 : Nat) (x : Nat → BitVec 8) (w : World) (hn : n ≤ 140737488355328)
    (H1 : Hid (∀ i, i < n → w.cell? ⟨b1, o1 + i, none⟩ = some (.int .u8 (el (x i))))) :
    Calls Tryz.prog 76 #[.int .u32 (rg r), .slice (some ⟨b1, o1, none⟩) n c1] w fun e w' => e = .returned (.int .u32 (rg (ov r (ls x n)))) ∧ Below w.heap.size w w' := by
  have hz := zero63
  go_enter Tryz.func76, Tryz.ntmps76
  go_wp2_with (first | (go_at_call 82; refine (halves_any _).mono ?_; rintro e w1 ⟨rfl, hb1⟩) | (refine wpList_storeAr rfl 136 _ _ rfl rfl w1.heap.size hvs _ 16 rfl rfl 136 (ar_new w1 16 136) size63 ?_; intro w3 hA3 hT3))
  clear hz
  have hb3 : Below w.heap.size w w3 := hT3.2.1 _ _ (hb1.alloc hb1.size _) hb1.size
  have hsz := hb1.size
  clear hT3 hb1
  go_loopw [0, 7, 11] (fun y _ i wr => ∃ k : Nat, k ≤ n ∧ i = .int .i64 k ∧ y = .int .u32 (rg (ov r (ls x k))) ∧ Ar wr 136 w1.heap.size hvs 16 ∧ Below w.heap.size w wr) (fun _ _ i _ => n - (intOf i).toNat)
  case atStart => exact ⟨0, Nat.zero_le _, rfl, by unfold ov; rfl, hA3, hb3⟩
  case round =>
    clear hA3 hb3
    obtain ⟨k, hk, rfl, rfl, hA, hb⟩ := hrel
    by_cases hlt : k < n
    · have g1 := cell_below (H1.out k hlt) hb
      have hi : (k : Int) < (n : Int) := by omega
      obtain ⟨R, hR⟩ : ∃ R, R = ov r (ls x k) := ⟨_, rfl⟩
      obtain ⟨R1, hR1⟩ : ∃ R1, R1 = R ^^^ (x k).setWidth 32 := ⟨_, rfl⟩
      obtain ⟨R2, hR2⟩ : ∃ R2, R2 = stps 4 R1 := ⟨_, rfl⟩
      obtain ⟨m1, hm1, q1, s1⟩ := nib R1
      obtain ⟨m2, hm2, q2, s2⟩ := nib R2
      have c1 := hA.cell hm1
      have c2 := hA.cell hm2
      have e1 : bits .xor .u32 (rg R) (el (x k) % 4294967296) = rg R1 := by rw [show el (x k) % 4294967296 = el (x k) by have := el_bd (x k); omega, el_rg, rg_xor, hR1]
      have e2 : bits .xor .u32 (rg R1 / 16) (rg (hvs m1)) = rg R2 := by rw [rg_shr4, rg_xor, s1, half_step, hR2]
      have e3 : bits .xor .u32 (rg R2 / 16) (rg (hvs m2)) = rg (ov r (ls x (k + 1))) := by
        rw [rg_shr4, rg_xor, s2, half_step, ls_succ, ov_snoc, ← hR]; unfold ob; rw [← hR1, hR2, ← stps_add]
      have i1 : (m1 : Int) < 16 := by omega
      have i2 : (m2 : Int) < 16 := by omega
      have j1 : (0 : Int) ≤ m1 := by omega
      have j2 : (0 : Int) ≤ m2 := by omega
      rw [← hR]
      clear s1 s2 hR1 hR2 hR
      go_wp2
      go_roundw
      case rel => exact ⟨k + 1, by omega, by go_num, rfl, hA, hb⟩
      case measure => simp [intOf]; omega
    · obtain rfl : k = n := by omega
      go_wp2
      go_ret
      exact ⟨rfl, hb⟩
set_option maxRecDepth 1000000 in
theorem over_nil (r : BitVec 32) (a1 : Option Addr) (c1 : Nat) (w : World) :
    Calls Tryz.prog 76 #[.int .u32 (rg r), .slice a1 0 c1] w fun e w' => e = .returned (.int .u32 (rg r)) ∧ Below w.heap.size w w' := by
  have hz := zero63
  go_enter Tryz.func76, Tryz.ntmps76
  go_wp2_with (first | (go_at_call 82; refine (halves_any _).mono ?_; rintro e w1 ⟨rfl, hb1⟩) | (refine wpList_storeAr rfl 136 _ _ rfl rfl w1.heap.size hvs _ 16 rfl rfl 136 (ar_new w1 16 136) size63 ?_; intro w3 hA3 hT3))
  clear hz
  have hb3 : Below w.heap.size w w3 := hT3.2.1 _ _ (hb1.alloc hb1.size _) hb1.size
  refine wp_loop_rounds 1 ?_
  rw [rounds_succ]
  go_wp2
  go_ret
  exact ⟨rfl, hb3⟩
end
theorem over_any {w : World} {a1 : Option Addr} {xs : List (BitVec 8)} (h1 : Rd w a1 xs) (r : BitVec 32) (n c1 : Nat) (hn : xs.length = n) (hm : n ≤ 140737488355328) :
    Calls Tryz.prog 76 #[.int .u32 (rg r), .slice a1 n c1] w fun e w' => e = .returned (.int .u32 (rg (ov r xs))) ∧ Below w.heap.size w w' := by
  subst hn
  rcases h1 with h1 | ⟨b1, o1, rfl, hc1⟩
  · subst h1; exact over_nil r a1 c1 w
  · have h := over_core r b1 o1 xs.length c1 (fun i => xs.getD i 0#8) w hm hc1
    rwa [ls_self] at h
theorem rg_zero : rg 0#32 = 0 := rfl
section
attribute [local irreducible] Calls rg stps ov
theorem cmore_any {w : World} {a1 : Option Addr} {xs : List (BitVec 8)} (h1 : Rd w a1 xs) (s : BitVec 32) (n c1 : Nat) (hn : xs.length = n) (hm : n ≤ 140737488355328) :
    Calls Tryz.prog 67 #[.int .u32 (rg s), .slice a1 n c1] w fun e w' => e = .returned (.int .u32 (rg (cmo s xs))) ∧ Below w.heap.size w w' := by
  have e1 := rg_not s
  have e2 := rg_not (ov (~~~ s) xs)
  go_enter Tryz.func67, Tryz.ntmps67
  go_wp2_with (go_at_call 76; refine (over_any h1 (~~~ s) n c1 hn hm).mono ?_; rintro e w1 ⟨rfl, hb1⟩)
  go_ret
  exact ⟨rfl, hb1⟩
theorem csum_any {w : World} {a1 : Option Addr} {xs : List (BitVec 8)} (h1 : Rd w a1 xs) (n c1 : Nat) (hn : xs.length = n) (hm : n ≤ 140737488355328) :
    Calls Tryz.prog 47 #[.slice a1 n c1] w fun e w' => e = .returned (.int .u32 (rg (cmo 0#32 xs))) ∧ Below w.heap.size w w' := by
  have hM := cmore_any h1 0#32 n c1 hn hm
  rw [rg_zero] at hM
  go_enter Tryz.func47, Tryz.ntmps47
  go_wp2_with (go_at_call 67; refine (hM).mono ?_; rintro e w1 ⟨rfl, hb1⟩)
  go_ret
  exact ⟨rfl, hb1⟩
end
end Go.Proofs.YtjobaeopokfekaaGreat
