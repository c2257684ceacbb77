/-
  health.Load.
-/
import Derived.Test.YtcfjinpjijcheabLq27
namespace Go.Proofs.Ytcfjinpjijcheab
open Go.RowKit
attribute [local irreducible] dW dR p2 fR fW fV fval sW sR
theorem cutU (b o n c t : Nat) (h : t < c) (hn : t ≤ n) : ∀ w', (Instr.slice 35 (.slice (some ⟨b, o, none⟩) n c) (some (.int .i64 (t : Int))) none none).run Try.prog w' = .ok (.slice (some ⟨b, o + t, none⟩) (n - t) (c - t)) w' := by
  have hu : Try.prog.underlying 35 = some (.slice (Try.prog.elem 35)) := by kernel_rfl
  have hz : ∀ w', (sizeOf (Try.prog.elem 35)).run Try.prog w' = .ok 1 w' := fun w' => by
    obtain ⟨i0, hi, hz0, hz1, hz2⟩ := info_parts infoB
    have e : Try.prog.elem 35 = 5 := by kernel_rfl
    rw [e]
    simp [sizeOf, typeInfo, hi, hz1]
  intro w'
  have e' : sliced (some ⟨b, o, none⟩) t n c 1 = .slice (some ⟨b, o + t, none⟩) (n - t) (c - t) := by
    unfold sliced
    rw [if_neg (by omega), Nat.mul_one]
    congr 1
    exact congrArg some (add_pl b o t)
  rw [run_slice_l w' 35 _ n c hu .i64 (t : Int) (by omega) (by omega), hz]
  exact congrArg (fun v => Result.ok v w') e'
theorem fils_set (c : Nat → Nat) (n k : Nat) (hk : k < n) : (fil c n k).set k (c k) = fil c n (k + 1) := by
  apply List.ext_getElem?
  intro i
  rw [List.getElem?_set, fil_len]
  by_cases e : k = i
  · subst e
    simp [fil, hk]
  · rw [if_neg e]
    by_cases hi : i < n
    · simp only [fil, List.getElem?_map, List.getElem?_range hi, Option.map_some]
      by_cases h2 : i < k
      · rw [if_pos h2, if_pos (by omega)]
      · rw [if_neg h2, if_neg (by omega)]
    · simp [fil, hi]
theorem fils_zero (c : Nat → Nat) (n : Nat) : sc (fil c n 0) = List.replicate n (.float .f32 0) := by
  apply List.ext_getElem?
  intro i
  by_cases hi : i < n <;> simp [sc, fil, hi]
/-- What Load answers. -/
def LdOk (w w' : World) (bs : List Nat) (e : Ending) : Prop :=
  (e = .returned (.tuple #[.pointer none, .int .i64 2]) ∧ ∀ k ss, ¬ Gd bs k ss) ∨
  ∃ b s k ss, e = .returned (.tuple #[.pointer (some ⟨b, 0, none⟩), .int .i64 0]) ∧ Gd bs k ss ∧ Bd w' b s k ss ∧ w.heap.size ≤ b ∧ w.heap.size ≤ s
theorem mayKeep_no {k : Nat} (h : ¬ Kp k) (w : World) : Calls Try.prog 28 #[.float .f32 k] w fun e w' => e = .returned (.bool false) ∧ w' = w :=
  (mayKeep_bool k w).mono fun _ _ ⟨h1, h2⟩ => ⟨(h1.resolve_left fun h3 => h h3.2).1, h2⟩
theorem mayScore_no {x : Nat} (hx : x < 4294967296) (h : ¬ Sc x) (w : World) : Calls Try.prog 29 #[.float .f32 x] w fun e w' => e = .returned (.bool false) ∧ w' = w :=
  (mayScore_bool x hx w).mono fun _ _ ⟨h1, h2⟩ => ⟨(h1.resolve_left fun h3 => h h3.2).1, h2⟩
theorem mayScore_yes {x : Nat} (hx : x < 4294967296) (h : Sc x) (w : World) : Calls Try.prog 29 #[.float .f32 x] w fun e w' => e = .returned (.bool true) ∧ w' = w :=
  (mayScore_bool x hx w).mono fun _ _ ⟨h1, h2⟩ => ⟨(h1.resolve_right fun h3 => h3.2 h).1, h2⟩
section
attribute [local irreducible] Calls
set_option maxRecDepth 1000000 in
set_option maxHeartbeats 16000000 in
theorem load_any {w : World} {p : Option Addr} {bs : List Nat} (h : Br w p bs) (h256 : ∀ x ∈ bs, x < 256) (n c : Nat) (hn : bs.length = n) (hc : n ≤ c) (hm : n ≤ 140737488355328) :
    Calls Try.prog 15 #[.slice p n c] w fun e w' => LdOk w w' bs e ∧ Below w.heap.size w w' := by
  by_cases h0 : n = 0
  · subst h0
    go_enter Try.func15, Try.ntmps15
    go_wp2
    go_ret2
    exact ⟨.inl ⟨rfl, fun k ss hg => by have := (gd_len hg).1; omega⟩, Below.refl _ _⟩
  · obtain ⟨b, o, rfl, hcell⟩ := h.at (by omega)
    have g0 := hcell 0 (by omega)
    rw [Nat.add_zero] at g0
    obtain ⟨N, hN⟩ : ∃ N, bs.getD 0 0 = N := ⟨_, rfl⟩
    have hN2 : N < 256 := by
      rw [← hN, show bs.getD 0 0 = bs[0]'(by omega) by simp [List.getD, show 0 < bs.length by omega]]
      exact h256 _ (List.getElem_mem _)
    rw [hN] at g0
    have n0 : ((n : Int) == 0) = false := by simp; omega
    by_cases hz : N = 0
    · subst hz
      go_enter Try.func15, Try.ntmps15
      go_wp2
      go_ret2
      exact ⟨.inl ⟨rfl, fun k ss hg => by have := (gd_len hg).2; have := hg.2.2.2.1; omega⟩, Below.refl _ _⟩
    · have nz : ((N : Int) == 0) = false := by simp; omega
      by_cases hl : n = 5 + 4 * N
      · have e1 : ((n : Int) != 5 + 4 * (N : Int)) = false := by simp; omega
        have RB := (show Hid _ from fun (W : World) (hW : Below w.heap.size w W) (t : Nat) (ht : t + 4 ≤ n) => readBits_any (w := W) (b := b) (o := o) (fun i hi => cell_below (hcell i hi) hW) h256 t (n - t) (c - t) (by omega) (by omega))
        have HG := (show Hid _ from gd_of h256 N hN (by omega) (by omega))
        have HNG := (show Hid _ from fun (k : Nat) (ss : List Nat) (hg : Gd bs k ss) => (⟨gd_keep hg, gd_len hg, gd_score hg, hg⟩ : rd4 bs 1 = k ∧ (bs.length = 5 + 4 * ss.length ∧ bs.getD 0 0 = ss.length) ∧ (∀ t, t < ss.length → rd4 bs (5 + 4 * t) = ss.getD t 0 ∧ Sc (ss.getD t 0)) ∧ Gd bs k ss))
        have cu1 : ∀ w', (Instr.slice 35 (.slice (some ⟨b, o, none⟩) n c) (some (.int .i64 1)) none none).run Try.prog w' = .ok (.slice (some ⟨b, o + 1, none⟩) (n - 1) (c - 1)) w' := cutU b o n c 1 (by omega) (by omega)
        have n9 : 9 ≤ n := by omega
        have HC := (show Hid _ from hcell)
        have H2 := (show Hid _ from h256)
        have mk : ∀ W : World, (Instr.makeSlice 58 (.int .u8 (N : Int)) (.int .u8 (N : Int))).run Try.prog W = .ok (.slice (some ⟨W.heap.size, 0, none⟩) N N) (W.alloc (.cells (sc (fil (fun i => rd4 bs (5 + 4 * i)) N 0)).toArray 57)) := fun W => by
          rw [fils_zero]
          obtain ⟨i0, hi, hz0, hs1, hby⟩ := info_parts infoS
          have h := run_make (P := Try.prog) W 58 57 i0 (.float .f32 0) Try.underlying58 hi hz0 .u8 .u8 (N : Int) (N : Int) (by omega) (by omega) (by rw [hby]; omega) (by omega)
          rw [h, hs1]
          simp only [Int.toNat_natCast, Nat.mul_one]
          rw [show (Value.float FloatKind.f32 0).cells = #[.float .f32 0] from rfl, ← toList_madeCells_one, Array.toArray_toList]
        have i1 : (1 : Int) ≤ (n : Int) := by omega
        have HLN := (show Hid _ from hl)
        have HBD : Hid (Bd ((w.alloc (.cells (sc (fil (fun i => rd4 bs (5 + 4 * i)) N 0)).toArray 57)).alloc (.cells #[.float .f32 (rd4 bs 1), .slice (some ⟨w.heap.size, 0, none⟩) N N] 60)).drew (w.heap.size + 1) w.heap.size (rd4 bs 1) (fil (fun i => rd4 bs (5 + 4 * i)) N 0) ∧
            Below w.heap.size w ((w.alloc (.cells (sc (fil (fun i => rd4 bs (5 + 4 * i)) N 0)).toArray 57)).alloc (.cells #[.float .f32 (rd4 bs 1), .slice (some ⟨w.heap.size, 0, none⟩) N N] 60)).drew) := by
          refine ⟨⟨?_, ?_⟩, ((balloc _ _).alloc (by rw [World.size_alloc]; omega) _).drew⟩
          · show ((w.alloc _).alloc _).heap[_]? = _
            rw [fil_len]
            have := heap_alloc_new (w.alloc (.cells (sc (fil (fun i => rd4 bs (5 + 4 * i)) N 0)).toArray 57)) (.cells #[.float .f32 (rd4 bs 1), .slice (some ⟨w.heap.size, 0, none⟩) N N] 60)
            rw [World.size_alloc] at this
            exact this
          · have := (bl_new w 57 (sc (fil (fun i => rd4 bs (5 + 4 * i)) N 0))).below (balloc _ (.cells #[.float .f32 (rd4 bs 1), .slice (some ⟨w.heap.size, 0, none⟩) N N] 60))
            exact this
        clear h h256 hcell hl
        go_enter Try.func15, Try.ntmps15
        go_wp2
        go_region_with (first | (go_at_call 27; refine (RB.out _ (by first | exact Below.refl _ _ | exact (Below.refl _ _).drew | exact (Below.refl _ _).drew.alloc (Nat.le_refl _) _ | exact ((Below.refl _ _).alloc (Nat.le_refl _) _).drew) 1 (by omega)).mono ?_; rintro e w1 ⟨rfl, h⟩; obtain rfl := h.symm))
        all_goals
          obtain ⟨W2, hW2⟩ : ∃ W2, W2 = ((w.alloc (.cells (sc (fil (fun i => rd4 bs (5 + 4 * i)) N 0)).toArray 57)).alloc (.cells #[.float .f32 (rd4 bs 1), .slice (some ⟨w.heap.size, 0, none⟩) N N] 60)).drew := ⟨_, rfl⟩
          rw [← hW2] at HBD ⊢
          clear hW2 mk cu1
          have d0 := HBD.out.1.c0
          have d1 := HBD.out.1.c1
          rw [fil_len] at d1
          obtain ⟨k, hk⟩ : ∃ k, Hid (rd4 bs 1 = k) := ⟨_, rfl⟩
          rw [hk.out] at d0 HBD ⊢
          by_cases hkp : Kp k
          · have MK := (show Hid _ from mayKeep_any hkp)
            go_wp2_with (go_at_call 28; refine (MK.out _).mono ?_; rintro e w1 ⟨rfl, h⟩; obtain rfl := h.symm)
            have HKP := (show Hid (Kp k) from hkp)
            clear d0 d1 hkp MK
            go_loopw [47] (fun i wr => ∃ t : Nat, t ≤ N ∧ i = .int .i64 (t : Int) ∧ Hid (∀ j, j < t → Sc (rd4 bs (5 + 4 * j))) ∧ Bd wr (w.heap.size + 1) w.heap.size k (fil (fun i => rd4 bs (5 + 4 * i)) N t) ∧ Below w.heap.size w wr) (fun i _ => N - (intOf i).toNat)
            case atStart => exact ⟨0, Nat.zero_le _, rfl, fun j hj => by omega, HBD.out.1, HBD.out.2⟩
            case round =>
              obtain ⟨t, ht, rfl, hsc, hbd, hb⟩ := hrel
              by_cases hlt : t < N
              · have hi : (t : Int) < (N : Int) := by omega
                have cu : ∀ w', (Instr.slice 35 (.slice (some ⟨b, o, none⟩) n c) (some (.int .i64 (5 + 4 * (t : Int)))) none none).run Try.prog w' = .ok (.slice (some ⟨b, o + (5 + 4 * t), none⟩) (n - (5 + 4 * t)) (c - (5 + 4 * t))) w' := by
                  have := cutU b o n c (5 + 4 * t) (by have := HLN.out; omega) (by have := HLN.out; omega)
                  rwa [show ((5 + 4 * t : Nat) : Int) = 5 + 4 * (t : Int) by omega] at this
                have R1 := (show Hid _ from RB.out wr hb (5 + 4 * t) (by have := HLN.out; omega))
                have d1 := hbd.c1
                rw [fil_len] at d1
                have g1 := hbd.at t (by rw [fil_len]; exact hlt)
                have fz := hbd.row.frozen t
                have hst := run_store_flt
                have h32 : rd4 bs (5 + 4 * t) < 4294967296 := by have := rdk_lt H2.out (5 + 4 * t) 4; rw [rdk_4] at this; omega
                have st := (hbd.set t (rd4 bs (5 + 4 * t))).1
                rw [fils_set (fun i => rd4 bs (5 + 4 * i)) N t hlt] at st
                have hb' : Below w.heap.size w (wr.setCell ⟨w.heap.size, t, none⟩ (.float .f32 (rd4 bs (5 + 4 * t)))) := hb.setCell (Nat.le_refl _) _
                obtain ⟨old, ho⟩ : ∃ z, (fil (fun i => rd4 bs (5 + 4 * i)) N t).getD t 0 = z := ⟨_, rfl⟩
                rw [ho] at g1
                obtain ⟨x, hx⟩ : ∃ x, Hid (rd4 bs (5 + 4 * t) = x) := ⟨_, rfl⟩
                rw [hx.out] at R1 h32 st hb'
                have HST := (show Hid (_ ∧ _) from ⟨st, hb'⟩)
                have HB := (show Hid (Below w.heap.size w wr) from hb)
                clear st hb' ho hbd hb
                by_cases hs : Sc x
                · have MS := (show Hid _ from mayScore_yes h32 hs)
                  have HSX := (show Hid _ from hs)
                  clear hs
                  go_wp2_with (first
                    | (go_at_call 27; refine R1.out.mono ?_; rintro e w1 ⟨rfl, h⟩; obtain rfl := h.symm)
                    | (go_at_call 29; refine (MS.out _).mono ?_; rintro e w1 ⟨rfl, h⟩; obtain rfl := h.symm))
                  go_roundw
                  case rel =>
                    refine ⟨t + 1, hlt, by go_num, fun j hj => ?_, HST.out.1, HST.out.2⟩
                    by_cases e : j = t
                    · rw [e, hx.out]; exact HSX.out
                    · exact hsc.out j (by omega)
                  case measure => simp [intOf]; omega
                · have MS := (show Hid _ from mayScore_no h32 hs)
                  have HSX := (show Hid _ from hs)
                  clear hs
                  go_wp2_with (first
                    | (go_at_call 27; refine R1.out.mono ?_; rintro e w1 ⟨rfl, h⟩; obtain rfl := h.symm)
                    | (go_at_call 29; refine (MS.out _).mono ?_; rintro e w1 ⟨rfl, h⟩; obtain rfl := h.symm))
                  go_ret2
                  refine ⟨.inl ⟨rfl, fun k' ss hg => HSX.out ?_⟩, HB.out⟩
                  obtain ⟨-, q1, q2, -⟩ := HNG.out k' ss hg
                  obtain ⟨q3, q4⟩ := q2 t (by have := HLN.out; omega)
                  rw [← hx.out, q3]
                  exact q4
              · obtain rfl : t = N := by omega
                go_wp2
                go_ret2
                refine ⟨.inr ⟨w.heap.size + 1, w.heap.size, k, _, rfl, ?_, hbd, by omega, Nat.le_refl _⟩, hb⟩
                rw [fil_full]
                have := HG.out (by rw [hk.out]; exact HKP.out) hsc.out
                rw [hk.out] at this
                exact this
          · have MK := (show Hid _ from mayKeep_no hkp)
            have HNK := (show Hid (¬ Kp k) from hkp)
            clear hkp
            go_wp2_with (go_at_call 28; refine (MK.out _).mono ?_; rintro e w1 ⟨rfl, h⟩; obtain rfl := h.symm)
            go_ret2
            exact ⟨.inl ⟨rfl, fun k' ss hg => HNK.out (by rw [← hk.out, (HNG.out k' ss hg).1]; exact hg.1)⟩, HBD.out.2⟩
      · have e1 : ((n : Int) != 5 + 4 * (N : Int)) = true := by simp; omega
        go_enter Try.func15, Try.ntmps15
        go_wp2
        go_ret2
        exact ⟨.inl ⟨rfl, fun k ss hg => by have := gd_len hg; omega⟩, Below.refl _ _⟩
end
end Go.Proofs.Ytcfjinpjijcheab
