/-
  slices.SortStableFunc below 20 elements; Order.
-/
import Derived.Test.YtcfjinpjijcheabOr27
namespace Go.Proofs.Ytcfjinpjijcheab
open Go.RowKit
attribute [local irreducible] dW dR p2 fR fW fV fval sW sR
theorem infoI : (Try.prog.info? 3).map (fun i => (i.zero, i.size, i.bytes)) = some (some (.int .i64 0), 1, 8) := by kernel_rfl
theorem make_N (n : Nat) (hn : n ≤ 1048576) (w : World) : (Instr.makeSlice 40 (.int .i64 (n : Int)) (.int .i64 (n : Int))).run Try.prog w = .ok (.slice (some ⟨w.heap.size, 0, none⟩) n n) (w.alloc (.cells (List.replicate n (Value.int .i64 0)).toArray 3)) :=
  make_G Try.underlying40 infoI rfl n (by omega) (by omega) w
theorem filn_zero (n : Nat) : nc (fil id n 0) = List.replicate n (.int .i64 0) := by
  apply List.ext_getElem?
  intro i
  by_cases hi : i < n <;> simp [nc, fil, hi]
theorem filn_set (n k : Nat) (hk : k < n) : (nc (fil id n k)).set k (.int .i64 (k : Int)) = nc (fil id n (k + 1)) := by
  rw [nc_set]
  congr 1
  apply List.ext_getElem?
  intro i
  rw [List.getElem?_set, fil_len]
  by_cases e : k = i
  · subst e
    simp [fil, hk]
  · rw [if_neg e]
    by_cases hi : i < n
    · simp only [fil, List.getElem?_map, List.getElem?_range hi, Option.map_some]
      by_cases h2 : i < k
      · rw [if_pos h2, if_pos (by omega)]
      · rw [if_neg h2, if_neg (by omega)]
    · simp [fil, hi]
theorem filn_full (n : Nat) : fil id n n = List.range n := by rw [fil_full]; simp
section
attribute [local irreducible] Calls
set_option maxRecDepth 1000000 in
set_option maxHeartbeats 2000000 in
theorem stable_small {w : World} {bx b s k G : Nat} {ss xs : List Nat} (h : Cb w bx b s k ss) (hs : ∀ x ∈ ss, Sc x) (hG : Bl w 3 G (nc xs)) (hlt : ∀ x ∈ xs, x < ss.length) (hbx : bx ≠ G) (hbb : b ≠ G) (hbs : s ≠ G) (m c : Nat) (hm : xs.length = m) (h20 : m < 20) :
    Calls Try.prog 30 #[.slice (some ⟨G, 0, none⟩) m c, .func (.func 31) #[] #[.pointer (some ⟨bx, 0, none⟩)]] w fun e w' => e = .returned (.tuple #[]) ∧ Bl w' 3 G (nc (insS ss 0 m xs)) ∧ w.grownBy w' (some G) := by
  have IN := (show Hid _ from insert_any h hs hG hlt hbx hbb hbs m c 0 m hm (Nat.zero_le _) (Nat.le_refl _) (by omega))
  have i1 : ¬ (20 : Int) ≤ (m : Int) := by omega
  have i2 : ¬ (20 : Int) < (m : Int) := by omega
  clear h hs hG hlt
  have ST : Hid (Calls Try.prog 41 #[.slice (some ⟨G, 0, none⟩) m c, .int .i64 (m : Int), .func (.func 31) #[] #[.pointer (some ⟨bx, 0, none⟩)]] w fun e w' => e = .returned (.tuple #[]) ∧ Bl w' 3 G (nc (insS ss 0 m xs)) ∧ w.grownBy w' (some G)) := by
    show Calls _ _ _ _ _
    go_enter Try.func41, Try.ntmps41
    go_wp2
    refine wp_loop_rounds 1 ?_
    rw [rounds_succ]
    go_wp2_with (go_at_call 46; refine IN.out.mono ?_; rintro e w1 ⟨rfl, hB, hg⟩)
    refine wp_loop_rounds 1 ?_
    rw [rounds_succ]
    go_wp2
    go_end0
    exact ⟨rfl, hB, hg⟩
  go_enter Try.func30, Try.ntmps30
  go_wp2_with (go_at_call 41; refine ST.out.mono ?_; rintro e w1 ⟨rfl, hB, hg⟩)
  go_end0
  exact ⟨rfl, hB, hg⟩
set_option maxRecDepth 1000000 in
set_option maxHeartbeats 2000000 in
theorem order_small {w : World} {b s k : Nat} {ss : List Nat} (h : Bd w b s k ss) (hs : ∀ x ∈ ss, Sc x) (hsl : s < w.heap.size) (n : Nat) (hn : ss.length = n) (h20 : n < 20) :
    Calls Try.prog 16 #[.pointer (some ⟨b, 0, none⟩)] w fun e w' => ∃ G, e = .returned (.slice (some ⟨G, 0, none⟩) n n) ∧ w.heap.size ≤ G ∧ Bl w' 3 G (nc (insS ss 0 n (List.range n))) ∧ Below w.heap.size w w' := by
  obtain ⟨W1, hW1⟩ : ∃ W1, W1 = w.alloc (.cells #[.pointer (some ⟨b, 0, none⟩)] 25) := ⟨_, rfl⟩
  have hb1 : Below w.heap.size w W1 := by rw [hW1]; exact balloc _ _
  have hz1 : W1.heap.size = w.heap.size + 1 := by rw [hW1, World.size_alloc]
  have cb : W1.cell? ⟨w.heap.size, 0, none⟩ = some (.pointer (some ⟨b, 0, none⟩)) := by
    rw [hW1]; exact (bl_new w 25 [.pointer (some ⟨b, 0, none⟩)]).cell 0
  have hbd := h.below hb1
  have c1 := hbd.c1
  rw [hn] at c1
  have mk : ∀ W : World, (Instr.makeSlice 40 (.int .i64 (n : Int)) (.int .i64 (n : Int))).run Try.prog W = .ok (.slice (some ⟨W.heap.size, 0, none⟩) n n) (W.alloc (.cells (nc (fil id n 0)).toArray 3)) := fun W => by
    rw [filn_zero]; exact make_N n (by omega) W
  have HCB := (show Hid (Cb W1 w.heap.size b s k ss) from ⟨cb, hbd⟩)
  have HS := (show Hid _ from hs)
  have HB1 := (show Hid _ from hb1)
  have hlb := h.ltb
  have HN := (show Hid _ from hn)
  have HW1 := (show Hid _ from hW1)
  have HZ1 := (show Hid _ from hz1)
  clear hbd h hs hW1 hb1 hz1
  go_enter Try.func16, Try.ntmps16
  go_wp2_with (rw [← HW1.out])
  clear mk c1 cb
  go_loopw [15] (fun i wr => ∃ t : Nat, t ≤ n ∧ i = .int .i64 (t : Int) ∧ Bl wr 3 W1.heap.size (nc (fil id n t)) ∧ Below W1.heap.size W1 wr) (fun i _ => n - (intOf i).toNat)
  case atStart => exact ⟨0, Nat.zero_le _, rfl, bl_new _ _ _, balloc _ _⟩
  case round =>
    obtain ⟨t, ht, rfl, hO, hb⟩ := hrel
    by_cases hlt : t < n
    · have hi : (t : Int) < (n : Int) := by omega
      have fz := hO.frozen t
      obtain ⟨old, g0⟩ : ∃ z : Int, wr.cell? ⟨W1.heap.size, t, none⟩ = some (.int .i64 z) := by
        rw [hO.cell, nc_at _ _ (by rw [fil_len]; exact hlt)]
        exact ⟨_, rfl⟩
      have st : Bl (wr.setCell ⟨W1.heap.size, t, none⟩ (.int .i64 (t : Int))) 3 W1.heap.size (nc (fil id n (t + 1))) := by
        rw [← filn_set _ _ hlt]; exact hO.set t _
      have HST := (show Hid (_ ∧ Below W1.heap.size W1 (wr.setCell ⟨W1.heap.size, t, none⟩ (.int .i64 (t : Int)))) from ⟨st, hb.setCell (Nat.le_refl _) _⟩)
      clear st hO hb
      go_wp2
      go_roundw
      case rel => exact ⟨t + 1, hlt, by go_num, HST.out.1, HST.out.2⟩
      case measure => simp [intOf]; omega
    · obtain rfl : t = n := by omega
      rw [filn_full] at hO
      have SO := (show Hid _ from stable_small (HCB.out.below hb) HS.out hO (fun x hx => by rw [hn]; exact List.mem_range.1 hx) (by have := HZ1.out; omega) (by have := HZ1.out; omega) (by have := HZ1.out; omega) t t (by simp) h20)
      have HB := (show Hid (Below W1.heap.size W1 wr) from hb)
      clear hO hb
      go_wp2_with (go_at_call 30; refine SO.out.mono ?_; rintro e w2 ⟨rfl, hB2, hg2⟩)
      go_ret
      refine ⟨W1.heap.size, rfl, by have := HZ1.out; omega, hB2, ?_⟩
      have h1 : Below W1.heap.size W1 w2 := HB.out.grown hg2 HB.out.size (fun k hk => by
        injection hk with hk; omega)
      exact bt HB1.out h1
end
end Go.Proofs.Ytcfjinpjijcheab
