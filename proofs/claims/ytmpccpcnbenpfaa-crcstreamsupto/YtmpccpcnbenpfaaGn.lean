/-
  The document's layer 6: 'bits', 'terms', 'gone'.
-/
import Derived.Test.YtmpccpcnbenpfaaKy
import Derived.Test.YtmpccpcnbenpfaaCz1
namespace Go.Proofs.Ytmpccpcnbenpfaa
open Go.RowKit Go.Great
def bi (b : Bool) : Int := if b then 1 else 0
def vb (f : Nat → Bool) (m : Nat) : List Value := (List.range m).map fun i => Value.int .i64 (bi (f i))
theorem vb_succ (f : Nat → Bool) (m : Nat) : vb f (m + 1) = vb f m ++ [.int .i64 (bi (f m))] := by
  unfold vb; rw [List.range_succ, List.map_append]; rfl
theorem vb_len (f : Nat → Bool) (m : Nat) : (vb f m).length = m := by simp [vb]
theorem vb_at (f : Nat → Bool) (m j : Nat) (h : j < m) : (vb f m)[j]? = some (.int .i64 (bi (f j))) := by
  unfold vb; rw [List.getElem?_map, List.getElem?_range h]; rfl
theorem vb_congr {f g : Nat → Bool} {m : Nat} (h : ∀ i, i < m → f i = g i) : vb f m = vb g m := by
  unfold vb; apply List.map_congr_left; intro i hi; rw [h i (List.mem_range.1 hi)]
/-- The text's bits in order. -/
def mb (xs : Nat → BitVec 8) (j : Nat) : Bool := (xs (j / 8)).getLsbD (j % 8)
theorem el_bit (x : BitVec 8) (c : Nat) : bits .and .i64 (el x / 2 ^ c) 1 = bi (x.getLsbD c) := by
  rw [i64_and1]
  unfold el bi
  have h : ((x.toNat : Int) / 2 ^ c) = ((x.toNat / 2 ^ c : Nat) : Int) := by rw [Int.natCast_ediv]; simp
  have h2 : x.getLsbD c = (x.toNat / 2 ^ c % 2 == 1) := by rw [BitVec.getLsbD, Nat.testBit_eq_decide_div_mod_eq]; rfl
  rw [h, h2]
  have h3 : x.toNat / 2 ^ c % 2 = 0 ∨ x.toNat / 2 ^ c % 2 = 1 := by omega
  rcases h3 with h3 | h3
  · rw [h3]; simp; omega
  · rw [h3]; simp; omega
theorem infoI : (Try.prog.info? 3).map (fun i => (i.zero, i.size, i.bytes)) = some (some (.int .i64 0), 1, 8) := by kernel_rfl
section
attribute [local irreducible] Calls el bi vb mb
set_option maxHeartbeats 1000000 in
set_option maxRecDepth 1000000 in
theorem bits_core (b1 o1 n c1 : Nat) (x : Nat → BitVec 8) (w : World) (hn : n ≤ 1000000000)
    (H1 : Hid (∀ i, i < n → w.cell? ⟨b1, o1 + i, none⟩ = some (.int .u8 (el (x i))))) :
    Calls Try.prog 35 #[.slice (some ⟨b1, o1, none⟩) n c1] w fun e w' => ∃ v, e = .returned v ∧ w'.ownsRow w.heap.size 3 1 v (8 * n) (vb (mb x) (8 * n)) ∧ Below w.heap.size w w' := by
  obtain ⟨i0, hi0, hz0, hz1, hz2⟩ := info_parts infoI
  go_enter Try.func35, Try.ntmps35
  go_wp2
  go_loopw [3, 4, 5] (fun l i _ wr => ∃ a : Nat, a ≤ n ∧ i = .int .i64 a ∧ wr.ownsRow w.heap.size 3 1 l (8 * a) (vb (mb x) (8 * a)) ∧ Below w.heap.size w wr) (fun _ i _ _ => n - (intOf i).toNat)
  case atStart => exact ⟨0, Nat.zero_le _, rfl, by unfold vb; exact World.ownsRow_nil _ _ _ _, Below.refl _ _⟩
  case round =>
    obtain ⟨a, ha, rfl, hO, hb⟩ := hrel
    by_cases hlt : a < n
    · have hi : (a : Int) < (n : Int) := by omega
      have g1 := H1.out a hlt
      clear H1
      go_wp2
      go_loopw [3, 5] (fun l i wq => ∃ c : Nat, c ≤ 8 ∧ i = .int .i64 c ∧ wq.ownsRow w.heap.size 3 1 l (8 * a + c) (vb (mb x) (8 * a + c)) ∧ Below w.heap.size w wq) (fun _ i _ => 8 - (intOf i).toNat)
      case atStart => exact ⟨0, Nat.zero_le _, rfl, hO, hb⟩
      case round =>
        clear hO hb
        obtain ⟨c, hc, rfl, hO, hb⟩ := hrel
        by_cases hlc : c < 8
        · have hj : (c : Int) < 8 := by omega
          have g2 := cell_below g1 hb
          have eb : bits .and .i64 (el (x a) / 2 ^ c) 1 = bi (mb x (8 * a + c)) := by
            rw [el_bit]; unfold mb; rw [show (8 * a + c) / 8 = a by omega, show (8 * a + c) % 8 = c by omega]
          have ew := el_w (x a)
          go_wp2_with (at_builtin; refine wpList_append_own _ rfl (.tmp 16) (.tmp 26) 65 rfl w.heap.size 3 i0 (.int .i64 0) 1 8 Try.underlying65 hi0 hz0 hz1 hz2 rfl (by decide) _ _ _ rfl (hO.alloc _) ⟨wr.heap.size, 0, none⟩ 1 1 [_] rfl rfl (one_new _ _ _) (one_cell _ _) ?c3 ?c4 ?c5 ?_)
          case c3 => unfold maxLen; omega
          case c4 => omega
          case c5 => have := hb.size; simp; omega
          · intro v' w2 hown' hgrow _
            rw [← vb_succ] at hown'
            have hb' := below_append (hb.alloc hb.size _) (Nat.le_trans hb.size (by simp)) hgrow (hO.alloc _) (Nat.le_refl _)
            clear hO hgrow
            go_wp2
            go_roundw
            case rel => exact ⟨c + 1, by omega, by go_num, hown', hb'⟩
            case measure => simp [intOf]; omega
        · obtain rfl : c = 8 := by omega
          go_wp2
          go_roundw
          case rel => exact ⟨a + 1, by omega, by go_num, hO, hb⟩
          case measure => simp [intOf]; omega
    · obtain rfl : a = n := by omega
      go_wp2
      go_ret
      exact ⟨_, rfl, hO, hb⟩
set_option maxRecDepth 1000000 in
theorem bits_nil (a1 : Option Addr) (c1 : Nat) (x : Nat → BitVec 8) (w : World) :
    Calls Try.prog 35 #[.slice a1 0 c1] w fun e w' => ∃ v, e = .returned v ∧ w'.ownsRow w.heap.size 3 1 v (8 * 0) (vb (mb x) (8 * 0)) ∧ Below w.heap.size w w' := by
  go_enter Try.func35, Try.ntmps35
  go_wp2
  refine wp_loop_rounds 1 ?_
  rw [rounds_succ]
  go_wp2
  go_ret
  exact ⟨_, rfl, by unfold vb; exact World.ownsRow_nil _ _ _ _, Below.refl _ _⟩
end
theorem bits_any {w : World} {a1 : Option Addr} {xs : List (BitVec 8)} (h1 : Rd w a1 xs) (n c1 : Nat) (hn : xs.length = n) (hm : n ≤ 1000000000) :
    Calls Try.prog 35 #[.slice a1 n c1] w fun e w' => ∃ v, e = .returned v ∧ w'.ownsRow w.heap.size 3 1 v (8 * n) (vb (mb (fn xs)) (8 * n)) ∧ Below w.heap.size w w' := by
  subst hn
  rcases h1 with h1 | ⟨b1, o1, rfl, hc1⟩
  · subst h1; exact bits_nil a1 c1 _ w
  · exact bits_core b1 o1 xs.length c1 (fn xs) w hm hc1

/-! ### The division, as plain mathematics -/
def pb (b : Bool) : BitVec 32 := if b then 1#32 else 0#32
/-- The register when it has met i bits. -/
def rb (m : Nat → Bool) (r : BitVec 32) : Nat → BitVec 32
  | 0 => r
  | i + 1 => stp (rb m r i ^^^ pb (m i))
theorem rb_succ (m : Nat → Bool) (r : BitVec 32) (i : Nat) : rb m r (i + 1) = stp (rb m r i ^^^ pb (m i)) := rfl
theorem lows_succ (a : BitVec 32) (n : Nat) : lows a (n + 1) = lows a n ^^^ pck n (1#32 <<< n) a := rfl
def tks : List Nat := [0, 4, 5, 6, 7, 9, 10, 12, 13, 14, 18, 19, 21, 22, 23, 24, 26, 32]
def tk (k : Nat) : Nat := tks.getD k 0
theorem tk_le (k : Nat) (h : k < 18) : tk k ≤ 32 := by
  have : ∀ k, k < 18 → tk k ≤ 32 := by decide +kernel
  exact this k h
/-- How often the place d is turned by the first k terms: odd or even. -/
def cn : Nat → Nat → Bool
  | 0, _ => false
  | k + 1, d => cn k d ^^ decide (d = tk k)
theorem cn_18 (m : Nat) : cn 18 (m + 1) = P32.getLsbD m := by
  by_cases h : m < 32
  · have : ∀ m, m < 32 → cn 18 (m + 1) = P32.getLsbD m := by decide +kernel
    exact this m h
  · have h1 : ∀ k, k ≤ 18 → cn k (m + 1) = false := by
      intro k
      induction k with
      | zero => intro _; rfl
      | succ k ih =>
        intro hk
        unfold cn
        rw [ih (by omega)]
        have := tk_le k (by omega)
        simp; omega
    rw [h1 18 (Nat.le_refl _), BitVec.getLsbD_of_ge _ _ (by omega)]
theorem stp_get (t : BitVec 32) (m : Nat) : (stp t).getLsbD m = (t.getLsbD (m + 1) ^^ (t.getLsbD 0 && P32.getLsbD m)) := by
  unfold stp pck
  rw [BitVec.getLsbD_xor, BitVec.getLsbD_ushiftRight, Nat.add_comm 1 m]
  cases t.getLsbD 0 <;> simp
/-- The row when i bits have been met: from the place i on. -/
def dv (m : Nat → Bool) (r : BitVec 32) (i j : Nat) : Bool := (rb m r i).getLsbD (j - i) ^^ m j
theorem pb_get (b : Bool) (m : Nat) : (pb b).getLsbD m = (b && decide (m = 0)) := by
  unfold pb
  cases b
  · simp
  · rw [if_pos rfl, BitVec.getLsbD_one]; simp
theorem dv_at (m : Nat → Bool) (r : BitVec 32) (i : Nat) : dv m r i i = (rb m r i ^^^ pb (m i)).getLsbD 0 := by
  unfold dv; rw [Nat.sub_self, BitVec.getLsbD_xor, pb_get]; simp
theorem dv_step (m : Nat → Bool) (r : BitVec 32) (i j : Nat) (h : i + 1 ≤ j) : dv m r (i + 1) j = (dv m r i j ^^ (dv m r i i && cn 18 (j - i))) := by
  rw [dv_at]
  obtain ⟨d, rfl⟩ : ∃ d, j = i + 1 + d := ⟨j - (i + 1), by omega⟩
  unfold dv
  rw [rb_succ, stp_get, show i + 1 + d - (i + 1) = d by omega, show i + 1 + d - i = d + 1 by omega, cn_18]
  have e : (rb m r i ^^^ pb (m i)).getLsbD (d + 1) = (rb m r i).getLsbD (d + 1) := by rw [BitVec.getLsbD_xor, pb_get]; simp
  rw [e]
  generalize (rb m r i ^^^ pb (m i)).getLsbD 0 = q
  cases (rb m r i).getLsbD (d + 1) <;> cases m (i + 1 + d) <;> cases q <;> cases P32.getLsbD d <;> rfl
theorem one_byte (r : BitVec 32) (x : BitVec 8) (m : Nat → Bool) (a : Nat) (hm : ∀ c, c < 8 → m (8 * a + c) = x.getLsbD c) (c : Nat) (hc : c ≤ 8) :
    rb m r (8 * a + c) = stps c (rb m r (8 * a) ^^^ lows (x.setWidth 32) c) := by
  induction c with
  | zero => unfold lows stps; rw [BitVec.xor_zero]; rfl
  | succ c ih =>
    rw [show 8 * a + (c + 1) = 8 * a + c + 1 by omega]
    show stp (rb m r (8 * a + c) ^^^ pb (m (8 * a + c))) = _
    rw [ih (by omega), stps_succ]
    congr 1
    have e : pb (m (8 * a + c)) = stps c (pck c (1#32 <<< c) (x.setWidth 32)) := by
      rw [hm c (by omega), pck_cases (Lin.stps c), stps_bit c c (by omega) (Nat.le_refl _)]
      unfold pb pck
      have e2 : (x.setWidth 32).getLsbD c = x.getLsbD c := by rw [BitVec.getLsbD_setWidth]; simp; omega
      rw [e2, Nat.sub_self]; rfl
    rw [e, lows_succ, ← BitVec.xor_assoc, Lin.stps c (rb m r (8 * a) ^^^ lows (BitVec.setWidth 32 x) c)]
theorem lows8 (x : BitVec 8) : lows (x.setWidth 32) 8 = x.setWidth 32 := by
  apply BitVec.eq_of_getLsbD_eq; intro i hi
  rw [lows_get _ _ _ hi]
  by_cases h : i < 8
  · simp [h]
  · have : (x.setWidth 32).getLsbD i = false := by rw [BitVec.getLsbD_setWidth, BitVec.getLsbD_of_ge x i (by omega)]; simp
    rw [this]; simp
theorem rb_ov (x : Nat → BitVec 8) (m : Nat → Bool) (r : BitVec 32) (n : Nat) (hm : ∀ j, j < 8 * n → m j = mb x j) : rb m r (8 * n) = ov r (ls x n) := by
  induction n with
  | zero => rfl
  | succ n ih =>
    have h := one_byte r (x n) m n (fun c hc => by rw [hm _ (by omega)]; unfold mb; rw [show (8 * n + c) / 8 = n by omega, show (8 * n + c) % 8 = c by omega]) 8 (Nat.le_refl _)
    rw [show 8 * (n + 1) = 8 * n + 8 by omega, h, lows8, ih (fun j hj => hm j (by omega)), ls_succ, ov_snoc]; rfl
end Go.Proofs.Ytmpccpcnbenpfaa
