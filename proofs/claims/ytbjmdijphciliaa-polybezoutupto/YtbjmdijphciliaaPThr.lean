/-
  'Through'.
-/
import Derived.Test.YtbjmdijphciliaaPTw
import Derived.Test.YtbjmdijphciliaaPow
namespace Go.Proofs.Ytbjmdijphciliaa
open Go.RowKit

/-- What Through keeps: so many values are right, and no coefficient stands beyond. -/
structure ThrInv (xs ys : List (BitVec 8)) (n k : Nat) (f : Nat → BitVec 8) : Prop where
  high : ∀ i, k ≤ i → f i = 0#8
  val : ∀ j, j < k → ev (co xs j) (ls f n) = co ys j
def vk (xs : List (BitVec 8)) (k : Nat) : List (BitVec 8) := van ((xs.take k).reverse)
theorem vk_len {xs : List (BitVec 8)} {k : Nat} (h : k ≤ xs.length) : (vk xs k).length = k + 1 := by unfold vk; rw [van_len, List.length_reverse, List.length_take]; omega
theorem vk_succ {xs : List (BitVec 8)} {k : Nat} (h : k < xs.length) : trim (mul (vk xs k) [co xs k, 1#8]) = vk xs (k + 1) := by
  unfold vk; rw [take_rev h]; exact van_trim (co xs k :: (xs.take k).reverse)
theorem vk_zero (xs : List (BitVec 8)) : vk xs 0 = [1#8] := by unfold vk; simp [van]
theorem ev_vk_ne {xs : List (BitVec 8)} {k : Nat} (h : k < xs.length) (hn : xs.Nodup) : ev (co xs k) (vk xs k) ≠ 0#8 := by
  unfold vk
  intro e
  have h1 := (ev_van _ _).1 e
  rw [List.mem_reverse] at h1
  exact not_nodup h h1 hn
theorem ev_vk_lt {xs : List (BitVec 8)} {k j : Nat} (h : k ≤ xs.length) (hj : j < k) : ev (co xs j) (vk xs k) = 0#8 := by
  unfold vk
  rw [ev_van, List.mem_reverse]
  rw [List.mem_take_iff_getElem]
  exact ⟨j, by omega, by simp [co, List.getD_eq_getElem?_getD, List.getElem?_eq_getElem (show j < xs.length by omega)]⟩
theorem ev_short {x : BitVec 8} {f : Nat → BitVec 8} {n k : Nat} (hk : k ≤ n) (h : ∀ i, k ≤ i → f i = 0#8) : ev x (ls f k) = ev x (ls f n) :=
  ev_congr x (fun i => by
    rw [co_ls, co_ls]
    by_cases h1 : i < k
    · rw [if_pos h1, if_pos (by omega)]
    · rw [if_neg h1]; split
      · exact (h i (by omega)).symm
      · rfl)
theorem ThrInv.start (xs ys : List (BitVec 8)) (n : Nat) : ThrInv xs ys n 0 (fun _ => 0#8) := ⟨fun _ _ => rfl, fun j h => by omega⟩
theorem ThrInv.step {xs ys : List (BitVec 8)} {n k : Nat} {f : Nat → BitVec 8} (H : ThrInv xs ys n k f) (hl : xs.length = n) (hk : k < n) (hn : xs.Nodup) :
    ThrInv xs ys n (k + 1) (fun i => f i ^^^ adq 0 (gm (co ys k ^^^ ev (co xs k) (ls f k)) (inv (ev (co xs k) (vk xs k)))) (vk xs k) i) := by
  generalize hc : gm (co ys k ^^^ ev (co xs k) (ls f k)) (inv (ev (co xs k) (vk xs k))) = c
  have hlen := vk_len (xs := xs) (k := k) (by omega)
  have hadq : ∀ i, adq 0 c (vk xs k) i = gm c (co (vk xs k) i) := fun i => by unfold adq; rw [if_neg (by omega), Nat.sub_zero]
  have he : ∀ x, ev x (ls (fun i => f i ^^^ adq 0 c (vk xs k) i) n) = ev x (ls f n) ^^^ gm c (ev x (vk xs k)) := fun x => by
    rw [ev_congr (q := add (ls f n) (smul c (vk xs k))) x (fun i => ?_), ev_add, ev_smul]
    rw [co_ls, co_add, co_ls, co_smul]
    by_cases hi : i < n
    · rw [if_pos hi, if_pos hi, hadq]
    · rw [if_neg hi, if_neg hi, co_ge (p := vk xs k) (by omega), gm_zero]; rfl
  refine ⟨fun i hi => ?_, fun j hj => ?_⟩
  · show f i ^^^ adq 0 c (vk xs k) i = 0#8
    rw [H.high i (by omega), hadq, co_ge (by omega), gm_zero]; rfl
  · rw [he]
    by_cases e : j = k
    · subst e
      have hd := ev_vk_ne (xs := xs) (k := j) (by omega) hn
      rw [← hc, gm_assoc, gm_comm (inv _), gm_inv hd, gm_one, ev_short (n := n) (by omega) H.high, BitVec.xor_comm (co ys j), ← BitVec.xor_assoc, BitVec.xor_self]; simp
    · rw [H.val j (by omega), ev_vk_lt (by omega) (by omega), gm_zero]; simp
theorem ThrInv.done {xs ys : List (BitVec 8)} {n : Nat} {f : Nat → BitVec 8} (H : ThrInv xs ys n n f) (hl : xs.length = n) : IsThr xs ys (trim (ls f n)) :=
  ⟨trim_trim _, by have := trim_len (ls f n); rw [ls_len] at this; omega, fun i hi => by rw [ev_trim]; exact H.val i (by omega)⟩
theorem two_sl (t : TypeId) (w : World) (a : BitVec 8) : Sl (w.alloc (.cells #[.int .u8 (el a), .int .u8 1] t)) (.slice (some ⟨w.heap.size, 0, none⟩) 2 2) [a, 1#8] := by
  refine ⟨_, 2, rfl, Nat.le_refl _, by omega, .inr ⟨w.heap.size, 0, rfl, fun i hi => ?_⟩, .inr ⟨_, _, rfl⟩⟩
  have h : i = 0 ∨ i = 1 := by simp at hi; omega
  rcases h with h | h <;> (subst h; rw [cell_of_row _ _ _ _ _ (0, 0) (heap_alloc_any _ _ _)]; rfl)
theorem own_take {w : World} {g n k : Nat} {f : Nat → BitVec 8} {t : TypeId} (h : Own w t g f n) (hk : k ≤ n) (hn : n ≤ 281474976710656) : Sl w (.slice (some ⟨g, 0, none⟩) k n) (ls f k) := by
  refine ⟨_, n, by rw [ls_len], by rw [ls_len]; exact hk, by omega, .inr ⟨g, 0, rfl, fun i hi => ?_⟩, .inr ⟨g, 0, rfl⟩⟩
  rw [ls_len] at hi
  rw [Nat.zero_add, h.cell (by omega), ls_get _ _ _ hi]
section
attribute [local irreducible] Calls el gm co Own Rs Sl Sr ev vk adq inv trim mul
set_option maxHeartbeats 16000000 in
set_option maxRecDepth 1000000 in
theorem through_core (b1 o1 b2 o2 n c1 c2 : Nat) (xs ys : List (BitVec 8)) (w : World) (hl : Hid (xs.length = n)) (hl2 : Hid (ys.length = n)) (hn : n + 4 ≤ 281474976710656) (hnd : Hid (xs.Nodup)) (h0 : 0 < n)
    (K1 : Hid (∀ i, i < n → w.cell? ⟨b1, o1 + i, none⟩ = some (.int .u8 (el (co xs i))))) (K2 : Hid (∀ i, i < n → w.cell? ⟨b2, o2 + i, none⟩ = some (.int .u8 (el (co ys i))))) :
    Calls Try.prog 25 #[.slice (some ⟨b1, o1, none⟩) n c1, .slice (some ⟨b2, o2, none⟩) n c2] w fun e w' => ∃ v t, e = .returned (.tuple #[v, .int .i64 0]) ∧ Hid (IsThr xs ys t) ∧ Rs 48 w.heap.size w' v t ∧ Below w.heap.size w w' := by
  have hmk := make_el n (by omega)
  have HT := (show Hid _ from twice_any (Sr.of_cells (c := c1) hl.out K1.out) (by rw [hl.out]; omega))
  have HF : ∀ r, Hid (r = true ↔ ¬ xs.Nodup) → r = false := fun r h => by
    cases r with
    | false => rfl
    | true => exact absurd hnd.out (h.out.1 rfl)
  go_enter Try.func25, Try.ntmps25
  go_wp2_with (go_at_call 43; refine HT.out.mono ?_; rintro e w1 ⟨r, rfl, hr, hb1⟩; obtain rfl := HF r hr; clear hr HT HF)
  clear hmk
  obtain ⟨G, hG⟩ : ∃ G, G = w1.heap.size := ⟨_, rfl⟩
  have hwG : w.heap.size ≤ G := by rw [hG]; exact hb1.size
  have hO0 := (own_newE w1 n).below ((Below.refl _ _).alloc (Nat.le_refl _) (.cells #[.int .u8 1] 48))
  have hb0 : Below w.heap.size w ((w1.alloc (.cells (Array.replicate n (.int .u8 0)) 48)).alloc (.cells #[.int .u8 1] 48)) := (hb1.alloc hb1.size _).alloc (Nat.le_trans hb1.size (by simp)) _
  have hV0 : Rs 48 (G + 1) ((w1.alloc (.cells (Array.replicate n (.int .u8 0)) 48)).alloc (.cells #[.int .u8 1] 48)) (.slice (some ⟨w1.heap.size + 1, 0, none⟩) 1 1) (vk xs 0) := by
    rw [vk_zero, hG]
    have ho : Own ((w1.alloc (.cells (Array.replicate n (.int .u8 0)) 48)).alloc (.cells #[.int .u8 1] 48)) 48 (w1.heap.size + 1) (fun _ => 1#8) 1 := by
      have h3 := heap_alloc_new (w1.alloc (.cells (Array.replicate n (.int .u8 0)) 48)) (.cells #[.int .u8 1] 48)
      rw [World.size_alloc] at h3
      unfold Own; rw [h3]; unfold rowC el; rfl
    exact ho.rs (xs := [1#8]) (Nat.le_refl _) (by omega) (Nat.le_refl _) (fun i hi => by
      have h1 : i = 0 := by simpa using hi
      subst h1; unfold co; rfl)
  have D0 : Hid (ThrInv xs ys n 0 (fun _ => 0#8)) := ThrInv.start xs ys n
  rw [← hG] at hO0 hV0 ⊢
  clear hG hb1
  go_loopw [7, 26] (fun v i wr => ∃ (k : Nat) (f : Nat → BitVec 8), k ≤ n ∧ i = .int .i64 k ∧ Own wr 48 G f n ∧ Rs 48 (G + 1) wr v (vk xs k) ∧ Below w.heap.size w wr ∧ Hid (ThrInv xs ys n k f)) (fun _ i _ => n - (intOf i).toNat)
  case atStart => exact ⟨0, _, Nat.zero_le _, rfl, hO0, hV0, hb0, D0⟩
  case round =>
    clear hO0 hV0 hb0 D0
    obtain ⟨k, f, hk, rfl, hO, hV, hb, D⟩ := hrel
    by_cases hlt : k < n
    · have hkx : k < xs.length := by rw [hl.out]; exact hlt
      have gx := cell_below (K1.out k hlt) hb
      have gy := cell_below (K2.out k hlt) hb
      have i1 : (k : Int) < (n : Int) := by omega
      have i2 : (k : Int) ≤ (n : Int) := by omega
      have hvl := vk_len (xs := xs) (k := k) (by omega)
      have hne := ev_vk_ne hkx hnd.out
      have D2 : Hid (ThrInv xs ys n (k + 1) (fun i => f i ^^^ adq 0 (gm (co ys k ^^^ ev (co xs k) (ls f k)) (inv (ev (co xs k) (vk xs k)))) (vk xs k) i)) := D.out.step hl.out hlt hnd.out
      have HVS := (show Hid (trim (mul (vk xs k) [co xs k, 1#8]) = vk xs (k + 1)) from vk_succ hkx)
      obtain ⟨m, hm⟩ : ∃ m, m = co ys k ^^^ ev (co xs k) (ls f k) := ⟨_, rfl⟩
      obtain ⟨dd, hdd⟩ : ∃ dd, dd = ev (co xs k) (vk xs k) := ⟨_, rfl⟩
      rw [← hm, ← hdd] at D2
      rw [← hdd] at hne
      have HA1 : Hid (∀ W, (∃ d, W = wr.drewN d) → Calls Try.prog 44 #[.slice (some ⟨G, 0, none⟩) k n, .int .u8 (el (co xs k))] W fun e w' => e = .returned (.int .u8 (el (ev (co xs k) (ls f k)))) ∧ Below wr.heap.size wr w') := fun W hW => by
        obtain ⟨d, rfl⟩ := hW
        exact (pat_any (own_take (hO.drewN d) (by omega) (by omega)) (by rw [ls_len]; omega) (co xs k)).mono fun e w' ⟨he, hb⟩ => ⟨he, bt (below_drewN (Below.refl _ _) d) hb⟩
      have HP1 : Hid (∀ W : World, Calls Try.prog 30 #[.int .u8 (el (co ys k)), .int .u8 (el (ev (co xs k) (ls f k)))] W fun e w' => e = .returned (.int .u8 (el m)) ∧ w' = W) := fun W => by rw [hm]; exact plus_any _ _ W
      have HA2 : Hid (∀ W, Below wr.heap.size wr W → Calls Try.prog 44 #[u7, .int .u8 (el (co xs k))] W fun e w' => e = .returned (.int .u8 (el dd)) ∧ Below wr.heap.size wr w') := fun W hW => by
        rw [hdd]
        exact (pat_any (hV.below hW).sl (by rw [hvl]; omega) (co xs k)).mono fun e w' ⟨he, hb⟩ => ⟨he, bt hW hb⟩
      have HAd : Hid (∀ W, Below wr.heap.size wr W → Calls Try.prog 32 #[.slice (some ⟨G, 0, none⟩) n n, u7, .int .u8 (el (gm m (inv dd)))] W fun e w' => e = .returned (.tuple #[]) ∧ Own w' 48 G (fun i => f i ^^^ adq 0 (gm m (inv dd)) (vk xs k) i) n ∧ Rs 48 (G + 1) w' u7 (vk xs k) ∧ Below w.heap.size w w') := fun W hW => by
        have hV3 := hV.below hW
        have hblk : u7.ownBlock ≠ some G := fun e => by have := (World.ownsRow.lt (by unfold Rs at hV3; exact hV3) G e).1; omega
        have hbW := bt hb hW
        refine (add_any (hO.below hW) hV3.sl hblk (gm m (inv dd)) (by rw [hvl]; omega) (by omega) (by omega)).mono ?_
        rintro e w' ⟨he, ho, hB⟩
        refine ⟨he, ho, ?_, hB.below hbW hbW.size hwG⟩
        unfold Rs at hV3 ⊢
        exact hB.owns hV3 hblk
      have HTi : Hid (∀ W : World, Rs 48 (G + 1) W u7 (vk xs k) → G + 1 ≤ W.heap.size → Calls Try.prog 17 #[u7, .slice (some ⟨W.heap.size, 0, none⟩) 2 2] (W.alloc (.cells #[.int .u8 (el (co xs k)), .int .u8 1] 48)) fun e w' => ∃ v, e = .returned v ∧ Rs 48 (G + 1) w' v (vk xs (k + 1)) ∧ Below W.heap.size W w') := fun W hR hg => by
        have hbA : Below W.heap.size W (W.alloc (.cells #[.int .u8 (el (co xs k)), .int .u8 1] 48)) := (Below.refl _ _).alloc (Nat.le_refl _) _
        have t1 := trim_len (vk xs k)
        have t2 := trim_len [co xs k, 1#8]
        have t3 : ([co xs k, 1#8] : List (BitVec 8)).length = 2 := rfl
        refine (ptimes_any (hR.below hbA).sl (two_sl _ W _) (by omega) (by omega) (by omega)).mono ?_
        rw [HVS.out]
        rintro e w' ⟨v, he, hr, hb3⟩
        exact ⟨v, he, hr.mono (by simp; omega), bt hbA hb3⟩
      have hGs : G + 1 ≤ wr.heap.size := hO.lt
      clear D hO hV hm hdd hvl
      go_wp2
      go_region_with (first
        | (go_at_call 44; refine (HA1.out _ ⟨_, rfl⟩).mono ?_; rintro e w2 ⟨rfl, hbA⟩; have gy2 := cell_below gy hbA)
        | (go_at_call 30; refine (HP1.out _).mono ?_; rintro e w' ⟨rfl, h⟩; obtain rfl := h.symm))
      all_goals
        go_wp2_with (first
          | (go_at_call 44; refine (HA2.out _ hbA).mono ?_; rintro e w3 ⟨rfl, hbB⟩)
          | (go_at_call 45; refine (over_any m dd hne _).mono ?_; rintro e w4 ⟨rfl, hbC⟩; have hbD := bt hbB hbC)
          | (go_at_call 32; refine (HAd.out _ hbD).mono ?_; rintro e w5 ⟨rfl, hO5, hV5, hb5⟩; have hg5 : G + 1 ≤ w5.heap.size := hO5.lt)
          | (go_at_call 17; refine (HTi.out _ hV5 hg5).mono ?_; rintro e w6 ⟨v6, rfl, hV6, hb6⟩; have hO6 := hO5.below hb6))
        go_roundw
        case rel => exact ⟨k + 1, _, by omega, by go_num, hO6, hV6, bt hb5 hb6, D2⟩
        case measure => simp [intOf]; omega
    · obtain rfl : k = n := by omega
      have HC := (show Hid _ from cut_own hO hwG (by omega))
      have HD : Hid (IsThr xs ys (trim (ls f k))) := D.out.done hl.out
      clear hO D hV
      go_wp2_with (go_at_call 31; refine HC.out.mono ?_; rintro e w' ⟨v, rfl, hR, h⟩; obtain rfl := h.symm)
      go_ret2
      exact ⟨v, _, rfl, HD, hR, hb⟩
end
end Go.Proofs.Ytbjmdijphciliaa
