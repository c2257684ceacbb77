/-
  The document's layer 6: 'bits', 'terms', 'gone'.
-/
import Derived.Test.YtjobaeopokfekaaGreatKz
import Derived.Test.YtjobaeopokfekaaGreatCz1
namespace Go.Proofs.YtjobaeopokfekaaGreat
open Go.RowKit Go.Great
def bi (b : Bool) : Int := if b then 1 else 0
def vb (f : Nat → Bool) (m : Nat) : List Value := (List.range m).map fun i => Value.int .i64 (bi (f i))
theorem vb_succ (f : Nat → Bool) (m : Nat) : vb f (m + 1) = vb f m ++ [.int .i64 (bi (f m))] := by
  unfold vb; rw [List.range_succ, List.map_append]; rfl
theorem vb_len (f : Nat → Bool) (m : Nat) : (vb f m).length = m := by simp [vb]
theorem vb_at (f : Nat → Bool) (m j : Nat) (h : j < m) : (vb f m)[j]? = some (.int .i64 (bi (f j))) := by
  unfold vb; rw [List.getElem?_map, List.getElem?_range h]; rfl
theorem vb_congr {f g : Nat → Bool} {m : Nat} (h : ∀ i, i < m → f i = g i) : vb f m = vb g m := by
  unfold vb; apply List.map_congr_left; intro i hi; rw [h i (List.mem_range.1 hi)]
/-- The text's bits in order. -/
def mb (xs : Nat → BitVec 8) (j : Nat) : Bool := (xs (j / 8)).getLsbD (j % 8)
theorem el_bit (x : BitVec 8) (c : Nat) : bits .and .i64 (el x / 2 ^ c) 1 = bi (x.getLsbD c) := by
  rw [i64_and1]
  unfold el bi
  have h : ((x.toNat : Int) / 2 ^ c) = ((x.toNat / 2 ^ c : Nat) : Int) := by rw [Int.natCast_ediv]; simp
  have h2 : x.getLsbD c = (x.toNat / 2 ^ c % 2 == 1) := by rw [BitVec.getLsbD, Nat.testBit_eq_decide_div_mod_eq]; rfl
  rw [h, h2]
  have h3 : x.toNat / 2 ^ c % 2 = 0 ∨ x.toNat / 2 ^ c % 2 = 1 := by omega
  rcases h3 with h3 | h3
  · rw [h3]; simp; omega
  · rw [h3]; simp; omega
theorem infoI : (Tryz.prog.info? 3).map (fun i => (i.zero, i.size, i.bytes)) = some (some (.int .i64 0), 1, 8) := by kernel_rfl
section
attribute [local irreducible] Calls el bi vb mb
set_option maxHeartbeats 1000000 in
set_option maxRecDepth 1000000 in
theorem bits_core (b1 o1 n c1 : Nat) (x : Nat → BitVec 8) (w : World) (hn : n ≤ 1000000000)
    (H1 : Hid (∀ i, i < n → w.cell? ⟨b1, o1 + i, none⟩ = some (.int .u8 (el (x i))))) :
    Calls Tryz.prog 74 #[.slice (some ⟨b1, o1, none⟩) n c1] w fun e w' => ∃ v, e = .returned v ∧ w'.ownsRow w.heap.size 3 1 v (8 * n) (vb (mb x) (8 * n)) ∧ Below w.heap.size w w' := by
  obtain ⟨i0, hi0, hz0, hz1, hz2⟩ := info_parts infoI
  go_enter Tryz.func74, Tryz.ntmps74
  go_wp2
  go_loopw [3, 4, 5] (fun l i _ wr => ∃ a : Nat, a ≤ n ∧ i = .int .i64 a ∧ wr.ownsRow w.heap.size 3 1 l (8 * a) (vb (mb x) (8 * a)) ∧ Below w.heap.size w wr) (fun _ i _ _ => n - (intOf i).toNat)
  case atStart => exact ⟨0, Nat.zero_le _, rfl, by unfold vb; exact World.ownsRow_nil _ _ _ _, Below.refl _ _⟩
  case round =>
    obtain ⟨a, ha, rfl, hO, hb⟩ := hrel
    by_cases hlt : a < n
    · have hi : (a : Int) < (n : Int) := by omega
      have g1 := H1.out a hlt
      clear H1
      go_wp2
      go_loopw [3, 5] (fun l i wq => ∃ c : Nat, c ≤ 8 ∧ i = .int .i64 c ∧ wq.ownsRow w.heap.size 3 1 l (8 * a + c) (vb (mb x) (8 * a + c)) ∧ Below w.heap.size w wq) (fun _ i _ => 8 - (intOf i).toNat)
      case atStart => exact ⟨0, Nat.zero_le _, rfl, hO, hb⟩
      case round =>
        clear hO hb
        obtain ⟨c, hc, rfl, hO, hb⟩ := hrel
        by_cases hlc : c < 8
        · have hj : (c : Int) < 8 := by omega
          have g2 := cell_below g1 hb
          have eb : bits .and .i64 (el (x a) / 2 ^ c) 1 = bi (mb x (8 * a + c)) := by
            rw [el_bit]; unfold mb; rw [show (8 * a + c) / 8 = a by omega, show (8 * a + c) % 8 = c by omega]
          have ew := el_w (x a)
          go_wp2_with (at_builtin; refine wpList_append_own _ rfl (.tmp 16) (.tmp 26) 121 rfl w.heap.size 3 i0 (.int .i64 0) 1 8 Tryz.underlying121 hi0 hz0 hz1 hz2 rfl (by decide) _ _ _ rfl (hO.alloc _) ⟨wr.heap.size, 0, none⟩ 1 1 [_] rfl rfl (one_new _ _ _) (one_cell _ _) ?c3 ?c4 ?c5 ?_)
          case c3 => unfold maxLen; omega
          case c4 => omega
          case c5 => have := hb.size; simp; omega
          · intro v' w2 hown' hgrow _
            rw [← vb_succ] at hown'
            have hb' := below_append (hb.alloc hb.size _) (Nat.le_trans hb.size (by simp)) hgrow (hO.alloc _) (Nat.le_refl _)
            clear hO hgrow
            go_wp2
            go_roundw
            case rel => exact ⟨c + 1, by omega, by go_num, hown', hb'⟩
            case measure => simp [intOf]; omega
        · obtain rfl : c = 8 := by omega
          go_wp2
          go_roundw
          case rel => exact ⟨a + 1, by omega, by go_num, hO, hb⟩
          case measure => simp [intOf]; omega
    · obtain rfl : a = n := by omega
      go_wp2
      go_ret
      exact ⟨_, rfl, hO, hb⟩
set_option maxRecDepth 1000000 in
theorem bits_nil (a1 : Option Addr) (c1 : Nat) (x : Nat → BitVec 8) (w : World) :
    Calls Tryz.prog 74 #[.slice a1 0 c1] w fun e w' => ∃ v, e = .returned v ∧ w'.ownsRow w.heap.size 3 1 v (8 * 0) (vb (mb x) (8 * 0)) ∧ Below w.heap.size w w' := by
  go_enter Tryz.func74, Tryz.ntmps74
  go_wp2
  refine wp_loop_rounds 1 ?_
  rw [rounds_succ]
  go_wp2
  go_ret
  exact ⟨_, rfl, by unfold vb; exact World.ownsRow_nil _ _ _ _, Below.refl _ _⟩
end
theorem bits_any {w : World} {a1 : Option Addr} {xs : List (BitVec 8)} (h1 : Rd w a1 xs) (n c1 : Nat) (hn : xs.length = n) (hm : n ≤ 1000000000) :
    Calls Tryz.prog 74 #[.slice a1 n c1] w fun e w' => ∃ v, e = .returned v ∧ w'.ownsRow w.heap.size 3 1 v (8 * n) (vb (mb (fn xs)) (8 * n)) ∧ Below w.heap.size w w' := by
  subst hn
  rcases h1 with h1 | ⟨b1, o1, rfl, hc1⟩
  · subst h1; exact bits_nil a1 c1 _ w
  · exact bits_core b1 o1 xs.length c1 (fn xs) w hm hc1

/-! ### The division, as plain mathematics -/
def pb (b : Bool) : BitVec 32 := if b then 1#32 else 0#32
/-- The register when it has met i bits. -/
def rb (m : Nat → Bool) (r : BitVec 32) : Nat → BitVec 32
  | 0 => r
  | i + 1 => stp (rb m r i ^^^ pb (m i))
theorem rb_succ (m : Nat → Bool) (r : BitVec 32) (i : Nat) : rb m r (i + 1) = stp (rb m r i ^^^ pb (m i)) := rfl
theorem lows_succ (a : BitVec 32) (n : Nat) : lows a (n + 1) = lows a n ^^^ pck n (1#32 <<< n) a := rfl
def tks : List Nat := [0, 4, 5, 6, 7, 9, 10, 12, 13, 14, 18, 19, 21, 22, 23, 24, 26, 32]
def tkG (k : Nat) : Nat := tks.getD k 0
theorem tk_le (k : Nat) (h : k < 18) : tkG k ≤ 32 := by
  have : ∀ k, k < 18 → tkG k ≤ 32 := by decide +kernel
  exact this k h
/-- How often the place d is turned by the first k terms: odd or even. -/
def cn : Nat → Nat → Bool
  | 0, _ => false
  | k + 1, d => cn k d ^^ decide (d = tkG k)
theorem cn_18 (m : Nat) : cn 18 (m + 1) = P32.getLsbD m := by
  by_cases h : m < 32
  · have : ∀ m, m < 32 → cn 18 (m + 1) = P32.getLsbD m := by decide +kernel
    exact this m h
  · have h1 : ∀ k, k ≤ 18 → cn k (m + 1) = false := by
      intro k
      induction k with
      | zero => intro _; rfl
      | succ k ih =>
        intro hk
        unfold cn
        rw [ih (by omega)]
        have := tk_le k (by omega)
        simp; omega
    rw [h1 18 (Nat.le_refl _), BitVec.getLsbD_of_ge _ _ (by omega)]
theorem stp_get (t : BitVec 32) (m : Nat) : (stp t).getLsbD m = (t.getLsbD (m + 1) ^^ (t.getLsbD 0 && P32.getLsbD m)) := by
  unfold stp pck
  rw [BitVec.getLsbD_xor, BitVec.getLsbD_ushiftRight, Nat.add_comm 1 m]
  cases t.getLsbD 0 <;> simp
/-- The row when i bits have been met: from the place i on. -/
def dv (m : Nat → Bool) (r : BitVec 32) (i j : Nat) : Bool := (rb m r i).getLsbD (j - i) ^^ m j
theorem pb_get (b : Bool) (m : Nat) : (pb b).getLsbD m = (b && decide (m = 0)) := by
  unfold pb
  cases b
  · simp
  · rw [if_pos rfl, BitVec.getLsbD_one]; simp
theorem dv_at (m : Nat → Bool) (r : BitVec 32) (i : Nat) : dv m r i i = (rb m r i ^^^ pb (m i)).getLsbD 0 := by
  unfold dv; rw [Nat.sub_self, BitVec.getLsbD_xor, pb_get]; simp
theorem dv_step (m : Nat → Bool) (r : BitVec 32) (i j : Nat) (h : i + 1 ≤ j) : dv m r (i + 1) j = (dv m r i j ^^ (dv m r i i && cn 18 (j - i))) := by
  rw [dv_at]
  obtain ⟨d, rfl⟩ : ∃ d, j = i + 1 + d := ⟨j - (i + 1), by omega⟩
  unfold dv
  rw [rb_succ, stp_get, show i + 1 + d - (i + 1) = d by omega, show i + 1 + d - i = d + 1 by omega, cn_18]
  have e : (rb m r i ^^^ pb (m i)).getLsbD (d + 1) = (rb m r i).getLsbD (d + 1) := by rw [BitVec.getLsbD_xor, pb_get]; simp
  rw [e]
  generalize (rb m r i ^^^ pb (m i)).getLsbD 0 = q
  cases (rb m r i).getLsbD (d + 1) <;> cases m (i + 1 + d) <;> cases q <;> cases P32.getLsbD d <;> rfl
theorem one_byte (r : BitVec 32) (x : BitVec 8) (m : Nat → Bool) (a : Nat) (hm : ∀ c, c < 8 → m (8 * a + c) = x.getLsbD c) (c : Nat) (hc : c ≤ 8) :
    rb m r (8 * a + c) = stps c (rb m r (8 * a) ^^^ lows (x.setWidth 32) c) := by
  induction c with
  | zero => unfold lows stps; rw [BitVec.xor_zero]; rfl
  | succ c ih =>
    rw [show 8 * a + (c + 1) = 8 * a + c + 1 by omega]
    show stp (rb m r (8 * a + c) ^^^ pb (m (8 * a + c))) = _
    rw [ih (by omega), stps_succ]
    congr 1
    have e : pb (m (8 * a + c)) = stps c (pck c (1#32 <<< c) (x.setWidth 32)) := by
      rw [hm c (by omega), pck_cases (Lin.stps c), stps_bit c c (by omega) (Nat.le_refl _)]
      unfold pb pck
      have e2 : (x.setWidth 32).getLsbD c = x.getLsbD c := by rw [BitVec.getLsbD_setWidth]; simp; omega
      rw [e2, Nat.sub_self]; rfl
    rw [e, lows_succ, ← BitVec.xor_assoc, Lin.stps c (rb m r (8 * a) ^^^ lows (BitVec.setWidth 32 x) c)]
theorem lows8 (x : BitVec 8) : lows (x.setWidth 32) 8 = x.setWidth 32 := by
  apply BitVec.eq_of_getLsbD_eq; intro i hi
  rw [lows_get _ _ _ hi]
  by_cases h : i < 8
  · simp [h]
  · have : (x.setWidth 32).getLsbD i = false := by rw [BitVec.getLsbD_setWidth, BitVec.getLsbD_of_ge x i (by omega)]; simp
    rw [this]; simp
theorem rb_ov (x : Nat → BitVec 8) (m : Nat → Bool) (r : BitVec 32) (n : Nat) (hm : ∀ j, j < 8 * n → m j = mb x j) : rb m r (8 * n) = ov r (ls x n) := by
  induction n with
  | zero => rfl
  | succ n ih =>
    have h := one_byte r (x n) m n (fun c hc => by rw [hm _ (by omega)]; unfold mb; rw [show (8 * n + c) / 8 = n by omega, show (8 * n + c) % 8 = c by omega]) 8 (Nat.le_refl _)
    rw [show 8 * (n + 1) = 8 * n + 8 by omega, h, lows8, ih (fun j hj => hm j (by omega)), ls_succ, ov_snoc]; rfl
end Go.Proofs.YtjobaeopokfekaaGreat
/-
  The document's layer 6: 'gone', and Sum, More, Blind.
-/
namespace Go.Proofs.YtjobaeopokfekaaGreat
open Go.RowKit Go.Great
theorem bi_w (b : Bool) : wrap64 (bi b) = bi b := by cases b <;> decide +kernel
theorem bi_xor (p q : Bool) : bits .xor .i64 (bi p) (bi q) = bi (p ^^ q) := by cases p <;> cases q <;> decide +kernel
theorem bi_flip (p : Bool) : bits .xor .i64 (bi p) 1 = bi (!p) := by cases p <;> decide +kernel
theorem bi_one (p : Bool) : (bi p == 1) = p := by cases p <;> decide
theorem rg_tb (r : BitVec 32) (k : Nat) : bits .and .u32 (rg r / 2 ^ k) 1 = bi (r.getLsbD k) := by
  rw [rg_shr, show (1 : Int) = rg 1#32 from rfl, rg_and]
  have h : r >>> k &&& 1#32 = pb (r.getLsbD k) := by
    apply BitVec.eq_of_getLsbD_eq; intro j hj
    rw [BitVec.getLsbD_and, BitVec.getLsbD_ushiftRight, pb_get, BitVec.getLsbD_one]
    by_cases e : j = 0
    · subst e; simp
    · simp [e]
  rw [h]; cases r.getLsbD k <;> rfl
/-- The block g holds these bits, from the place lo on. -/
def Bw (w : World) (g lo : Nat) (f : Nat → Bool) (L : Nat) : Prop := ∃ cur : Array Value, w.heap[g]? = some (.cells cur 3 (0, 0)) ∧ L ≤ cur.size ∧ ∀ i, lo ≤ i → i < L → cur[i]? = some (.int .i64 (bi (f i)))
theorem Bw.cell {w : World} {g lo L : Nat} {f : Nat → Bool} (h : Bw w g lo f L) {i : Nat} (h1 : lo ≤ i) (h2 : i < L) : w.cell? ⟨g, i, none⟩ = some (.int .i64 (bi (f i))) := by
  obtain ⟨cur, hh, hs, hc⟩ := h
  rw [cell_of_row w g i _ _ _ hh]; exact hc i h1 h2
theorem Bw.frozen {w : World} {g lo L : Nat} {f : Nat → Bool} (h : Bw w g lo f L) (i : Nat) : w.frozen? ⟨g, i, none⟩ = false := by
  obtain ⟨cur, hh, hs, hc⟩ := h
  exact frozen_of_row w g i _ _ hh
theorem Bw.set {w W : World} {g lo L : Nat} {f f' : Nat → Bool} (h : Bw w g lo f L) {k : Nat} {b : Bool} (hk : k < L) (e : W.heap = (w.setCell ⟨g, k, none⟩ (.int .i64 (bi b))).heap) (hf : ∀ i, lo ≤ i → i < L → f' i = if i = k then b else f i) : Bw W g lo f' L := by
  obtain ⟨cur, hh, hs, hc⟩ := h
  refine ⟨cur.setIfInBounds k (.int .i64 (bi b)), by rw [e, heap_setCell_same w g k _ _ _ hh], by simpa using hs, fun i h1 h2 => ?_⟩
  rw [Array.getElem?_setIfInBounds, hf i h1 h2]
  by_cases e2 : k = i
  · subst e2; rw [if_pos rfl, if_pos rfl, if_pos (by omega)]
  · rw [if_neg e2, if_neg (fun h => e2 h.symm), hc i h1 h2]
theorem Bw.lt {w : World} {g lo L : Nat} {f : Nat → Bool} (h : Bw w g lo f L) : g < w.heap.size := by
  obtain ⟨cur, hh, hs, hc⟩ := h
  rcases Nat.lt_or_ge g w.heap.size with h1 | h1
  · exact h1
  · rw [Array.getElem?_eq_none h1] at hh; cases hh
theorem Bw.below {w w' : World} {g lo L : Nat} {f : Nat → Bool} (h : Bw w g lo f L) (hb : Below w.heap.size w w') : Bw w' g lo f L := by
  have hl := h.lt
  obtain ⟨cur, hh, hs, hc⟩ := h
  exact ⟨cur, by rw [hb.block g hl]; exact hh, hs, hc⟩
theorem Bw.weak {w : World} {g lo lo' L : Nat} {f f' : Nat → Bool} (h : Bw w g lo f L) (hlo : lo ≤ lo') (hf : ∀ i, lo' ≤ i → i < L → f' i = f i) : Bw w g lo' f' L := by
  obtain ⟨cur, hh, hs, hc⟩ := h
  exact ⟨cur, hh, hs, fun i h1 h2 => by rw [hf i h1 h2]; exact hc i (by omega) h2⟩
theorem bw_of {w : World} {base : Nat} {v : Value} {L : Nat} {f : Nat → Bool} (h : w.ownsRow base 3 1 v L (vb f L)) (h0 : 0 < L) : ∃ g cap, v = .slice (some ⟨g, 0, none⟩) L cap ∧ base ≤ g ∧ Bw w g 0 f L := by
  rcases h.2 with ⟨hv, h1⟩ | ⟨g, cap, c, hv, hg, hh, hc, hm, hs, ht⟩
  · omega
  · refine ⟨g, cap, hv, hg, c, hh, by omega, fun i _ hi => ?_⟩
    rw [Nat.mul_one] at ht
    have h1 : (c.toList.take L)[i]? = some (.int .i64 (bi (f i))) := by rw [ht, vb_at f L i hi]
    rw [List.getElem?_take_of_lt hi] at h1
    simpa using h1
theorem owns_len {w : World} {base : Nat} {t : TypeId} {v : Value} {L : Nat} {xs : List Value} (h : w.ownsRow base t 1 v L xs) : ∃ p k, v = .slice p L k := by
  rcases h.2 with ⟨hv, h1⟩ | ⟨g, cap, c, hv, _⟩
  · subst h1; exact ⟨none, 0, hv⟩
  · exact ⟨_, _, hv⟩
section
attribute [local irreducible] Calls
theorem terms_any (w : World) :
    Calls Tryz.prog 75 #[] w fun e w' => e = .returned (.slice (some ⟨w.heap.size, 0, none⟩) 18 18) ∧ (∀ k, k < 18 → w'.cell? ⟨w.heap.size, k, none⟩ = some (.int .i64 (tkG k : Nat))) ∧ Below w.heap.size w w' := by
  go_enter Tryz.func75, Tryz.ntmps75
  go_wp2
  go_ret
  refine ⟨rfl, fun k hk => ?_, (Below.refl _ _).alloc (Nat.le_refl _) _⟩
  rw [cell_of_row _ _ _ _ _ (0, 0) (heap_alloc_new w _)]
  have : k = 0 ∨ k = 1 ∨ k = 2 ∨ k = 3 ∨ k = 4 ∨ k = 5 ∨ k = 6 ∨ k = 7 ∨ k = 8 ∨ k = 9 ∨ k = 10 ∨ k = 11 ∨ k = 12 ∨ k = 13 ∨ k = 14 ∨ k = 15 ∨ k = 16 ∨ k = 17 := by omega
  rcases this with rfl | rfl | rfl | rfl | rfl | rfl | rfl | rfl | rfl | rfl | rfl | rfl | rfl | rfl | rfl | rfl | rfl | rfl <;> rfl
end
/-- The row before it is divided. -/
def m0 (x : Nat → BitVec 8) (n j : Nat) : Bool := decide (j < 8 * n) && mb x j
theorem m0_in {x : Nat → BitVec 8} {n j : Nat} (h : j < 8 * n) : m0 x n j = mb x j := by unfold m0; simp [h]
theorem m0_out {x : Nat → BitVec 8} {n j : Nat} (h : 8 * n ≤ j) : m0 x n j = false := by unfold m0; simp; omega
theorem cn_succ (k d : Nat) : cn (k + 1) d = (cn k d ^^ decide (d = tkG k)) := rfl
theorem dv_def (m : Nat → Bool) (r : BitVec 32) (i j : Nat) : dv m r i j = ((rb m r i).getLsbD (j - i) ^^ m j) := rfl
theorem dv_zero (m : Nat → Bool) (r : BitVec 32) (j : Nat) : dv m r 0 j = (r.getLsbD j ^^ m j) := rfl
theorem rg_put (R : BitVec 32) (k : Nat) (hk : k < 32) : bits .or .u32 (rg (lows R k)) (bi (R.getLsbD k) * 2 ^ k % 4294967296) = rg (lows R (k + 1)) := by
  have h1 : bi (R.getLsbD k) * 2 ^ k % 4294967296 = rg (pck k (1#32 <<< k) R) := by
    unfold pck bi
    cases R.getLsbD k
    · simp [rg]
    · rw [if_pos rfl, if_pos rfl, Int.one_mul, rg_bit]
  rw [h1, lows_succ]
  have h2 : lows R k ||| pck k (1#32 <<< k) R = lows R k ^^^ pck k (1#32 <<< k) R := by
    apply BitVec.eq_of_getLsbD_eq; intro i hi
    rw [BitVec.getLsbD_or, BitVec.getLsbD_xor, lows_get R k i hi]
    unfold pck
    by_cases hp : R.getLsbD k
    · rw [if_pos hp, one_shl k i hi]
      by_cases e : i = k
      · subst e; simp
      · simp [e]
    · rw [if_neg hp]; simp
  rw [← h2]
  unfold rg
  rw [u32_or_nat _ _ (BitVec.isLt _) (BitVec.isLt _), BitVec.toNat_or]
section
attribute [local irreducible] Calls el bi vb mb m0 dv rb cn tkG rg lows Bw
set_option maxHeartbeats 4000000 in
set_option maxRecDepth 1000000 in
theorem gone_any {w : World} {a1 : Option Addr} {xs : List (BitVec 8)} (h1 : Rd w a1 xs) (r : BitVec 32) (n c1 : Nat) (hn : xs.length = n) (hm : n ≤ 1000000000) :
    Calls Tryz.prog 58 #[.int .u32 (rg r), .slice a1 n c1] w fun e w' => e = .returned (.int .u32 (rg (ov r xs))) ∧ Below w.heap.size w w' := by
  obtain ⟨i0, hi0, hz0, hz1, hz2⟩ := info_parts infoI
  have eov : rb (m0 (fn xs) n) r (8 * n) = ov r xs := by
    rw [rb_ov (fn xs) _ r n (fun j hj => m0_in hj), ← hn, ls_fn]
  generalize hM : m0 (fn xs) n = M at *
  have EOV : Hid (rb M r (8 * n) = ov r xs) := eov
  clear eov
  have hM0 : Hid (∀ j, 8 * n ≤ j → M j = false) := fun j hj => by rw [← hM]; exact m0_out hj
  go_enter Tryz.func58, Tryz.ntmps58
  go_wp2_with (go_at_call 74; refine (bits_any h1 n c1 hn hm).mono ?_; rintro e w1 ⟨v1, rfl, hO1, hb1⟩; obtain ⟨p1, k1, hv1⟩ : ∃ p k, v1 = .slice p (8 * n) k := owns_len hO1; subst hv1)
  have hO2 : w1.ownsRow w.heap.size 3 1 (.slice p1 (8 * n) k1) (8 * n + 0) (vb M (8 * n + 0)) := by
    rw [Nat.add_zero, vb_congr (g := mb (fn xs)) (fun j hj => by rw [← hM]; exact m0_in hj)]; exact hO1
  clear hO1
  go_loopw [5, 7] (fun l i wr => ∃ k : Nat, k ≤ 32 ∧ i = .int .i64 k ∧ wr.ownsRow w.heap.size 3 1 l (8 * n + k) (vb M (8 * n + k)) ∧ Below w.heap.size w wr) (fun _ i _ => 32 - (intOf i).toNat)
  case atStart => exact ⟨0, Nat.zero_le _, rfl, hO2, hb1⟩
  case round =>
    clear hO2 hb1
    obtain ⟨k, hk, rfl, hO, hb⟩ := hrel
    by_cases hlt : k < 32
    · have hi : (k : Int) < 32 := by omega
      have e0 : Hid (Value.int .i64 0 = .int .i64 (bi (M (8 * n + k)))) := by show _ = _; rw [hM0.out _ (by omega)]; unfold bi; rfl
      go_wp2_with (at_builtin; refine wpList_append_own _ rfl (.tmp 22) (.tmp 23) 121 rfl w.heap.size 3 i0 (.int .i64 0) 1 8 Tryz.underlying121 hi0 hz0 hz1 hz2 rfl (by decide) _ _ _ rfl (hO.alloc _) ⟨wr.heap.size, 0, none⟩ 1 1 [.int .i64 0] rfl rfl (one_new _ _ _) (one_cell _ _) ?c3 ?c4 ?c5 ?_)
      case c3 => unfold maxLen; omega
      case c4 => omega
      case c5 => have := hb.size; simp; omega
      · intro v' w2 hown' hgrow _
        rw [e0.out, ← vb_succ] at hown'
        have hb' := below_append (hb.alloc hb.size _) (Nat.le_trans hb.size (by simp)) hgrow (hO.alloc _) (Nat.le_refl _)
        clear hO hgrow e0
        go_wp2
        go_roundw
        case rel => exact ⟨k + 1, by omega, by go_num, hown', hb'⟩
        case measure => simp [intOf]; omega
    · obtain rfl : k = 32 := by omega
      obtain ⟨g, cap, rfl, hg, hB⟩ := bw_of hO (by omega)
      clear hO
      go_wp2
      have hB2 : Bw wr g 0 (fun j => (decide (j < 0) && r.getLsbD j) ^^ M j) (8 * n + 32) := hB.weak (Nat.le_refl _) (fun i _ _ => by simp)
      clear hB
      go_loopw [8] (fun i wr => ∃ k : Nat, k ≤ 32 ∧ i = .int .i64 k ∧ Bw wr g 0 (fun j => (decide (j < k) && r.getLsbD j) ^^ M j) (8 * n + 32) ∧ Below w.heap.size w wr) (fun i _ => 32 - (intOf i).toNat)
      case atStart => exact ⟨0, Nat.zero_le _, rfl, hB2, hb⟩
      case round =>
        clear hB2 hb
        obtain ⟨k, hk, rfl, hB, hb⟩ := hrel
        by_cases hlt : k < 32
        · have hi : (k : Int) < 32 := by omega
          have hi2 : (k : Int) < 8 * (n : Int) + 32 := by omega
          have g1 := hB.cell (Nat.zero_le k) (show k < 8 * n + 32 by omega)
          have g2 := hB.frozen k
          have eM : ((decide (k < k) && r.getLsbD k) ^^ M k) = M k := by simp
          rw [eM] at g1
          have q1 := rg_tb r k
          obtain ⟨q, hq⟩ : ∃ q, q = r.getLsbD k := ⟨_, rfl⟩
          rw [← hq] at q1
          have q2 := bi_w q
          have q3 := bi_xor (M k) q
          have HQ : Hid (q = r.getLsbD k) := hq
          clear eM hq
          go_wp2
          go_roundw
          case rel => exact ⟨k + 1, by omega, by go_num, hB.set (show k < 8 * n + 32 by omega) rfl (fun i _ _ => by
              by_cases e : i = k
              · subst e; rw [if_pos rfl, HQ.out]; simp; rw [Bool.xor_comm]
              · rw [if_neg e]
                by_cases h2 : i < k
                · simp [h2, show i < k + 1 by omega]
                · simp [h2, show ¬ i < k + 1 by omega]), hb.setCell hg _⟩
          case measure => simp [intOf]; omega
        · obtain rfl : k = 32 := by omega
          have hB3 : Bw wr g 0 (dv M r 0) (8 * n + 32) := hB.weak (Nat.le_refl _) (fun i _ _ => by
            rw [dv_zero]
            by_cases h2 : i < 32
            · simp [h2]
            · rw [BitVec.getLsbD_of_ge r i (by omega)]; simp)
          clear hB
          go_wp2_with (go_at_call 75; refine (terms_any _).mono ?_; rintro e w4 ⟨rfl, ht4, hb4⟩)
          have hgl := hB3.lt
          have hgt : Hid (g ≠ wr.heap.size) := by show _ ≠ _; omega
          have hge : Hid (w.heap.size ≤ wr.heap.size) := hb.size
          have hT4 : Hid (∀ k, k < 18 → w4.cell? ⟨wr.heap.size, k, none⟩ = some (.int .i64 (tkG k : Nat))) := ht4
          have hB4 := hB3.below hb4
          have hbb := hb.trans (hb4.mono hb.size)
          clear hB3 hb4 ht4 hgl hb
          generalize wr.heap.size = gt at *
          go_loopw [10, 11] (fun i _ wr => ∃ a : Nat, a ≤ 8 * n ∧ i = .int .i64 a ∧ Bw wr g a (dv M r a) (8 * n + 32) ∧ Hid (∀ k, k < 18 → wr.cell? ⟨gt, k, none⟩ = some (.int .i64 (tkG k : Nat))) ∧ Below w.heap.size w wr) (fun i _ _ => 8 * n - (intOf i).toNat)
          case atStart => exact ⟨0, Nat.zero_le _, rfl, hB4, hT4, hbb⟩
          case round =>
            clear hB4 hT4 hbb
            obtain ⟨a, ha, rfl, hB, hT, hb⟩ := hrel
            by_cases hla : a < 8 * n
            · have hi : (a : Int) < 8 * (n : Int) := by omega
              have hi2 : (a : Int) < 8 * (n : Int) + 32 := by omega
              have g1 := hB.cell (Nat.le_refl a) (show a < 8 * n + 32 by omega)
              obtain ⟨q, hq⟩ : ∃ q, q = dv M r a a := ⟨_, rfl⟩
              rw [← hq] at g1
              have HQ : Hid (q = dv M r a a) := hq
              clear hq
              cases q with
              | false =>
                have q1 : bi false = 0 := by unfold bi; rfl
                go_wp2
                go_roundw
                case rel => exact ⟨a + 1, by omega, by go_num, hB.weak (by omega) (fun j h1 h2 => by rw [dv_step M r a j h1, ← HQ.out]; simp), hT, hb⟩
                case measure => simp [intOf]; omega
              | true =>
                have q1 : bi true = 1 := by unfold bi; rfl
                go_wp2
                clear g1
                have hB5 : Bw wr g a (fun j => dv M r a j ^^ cn 0 (j - a)) (8 * n + 32) := hB.weak (Nat.le_refl _) (fun j _ _ => by simp [cn])
                clear hB
                go_loopw [11] (fun i wr => ∃ c : Nat, c ≤ 18 ∧ i = .int .i64 c ∧ Bw wr g a (fun j => dv M r a j ^^ cn c (j - a)) (8 * n + 32) ∧ Hid (∀ k, k < 18 → wr.cell? ⟨gt, k, none⟩ = some (.int .i64 (tkG k : Nat))) ∧ Below w.heap.size w wr) (fun i _ => 18 - (intOf i).toNat)
                case atStart => exact ⟨0, Nat.zero_le _, rfl, hB5, hT, hb⟩
                case round =>
                  clear hB5 hT hb
                  obtain ⟨c, hc, rfl, hB, hT, hb⟩ := hrel
                  by_cases hlc : c < 18
                  · have hi3 : (c : Int) < 18 := by omega
                    have g1 := hT.out c hlc
                    have ht := tk_le c hlc
                    obtain ⟨t, hte⟩ : ∃ t, t = tkG c := ⟨_, rfl⟩
                    rw [← hte] at g1 ht
                    have HE : Hid (t = tkG c) := hte
                    clear hte
                    have g2 := hB.cell (show a ≤ a + t by omega) (show a + t < 8 * n + 32 by omega)
                    have g3 := hB.frozen (a + t)
                    obtain ⟨q, hq⟩ : ∃ q, q = (dv M r a (a + t) ^^ cn c (a + t - a)) := ⟨_, rfl⟩
                    rw [← hq] at g2
                    have HQ2 : Hid (q = (dv M r a (a + t) ^^ cn c (a + t - a))) := hq
                    clear hq
                    have q2 := bi_flip q
                    have hi4 : (a : Int) + (t : Int) < 8 * (n : Int) + 32 := by omega
                    go_wp2
                    have e1 : IntKind.i64.wrap ((a : Int) + (t : Int)) = (a : Int) + (t : Int) := by rw [IntKind.wrap_i64]; omega
                    go_region
                    go_wp2
                    go_roundw
                    case rel => exact ⟨c + 1, by omega, by go_num, hB.set (k := a + t) (b := !q) (by omega) rfl (fun i hi1 hi2 => by
                        rw [cn_succ]
                        by_cases e : i = a + t
                        · subst e; rw [if_pos rfl, HQ2.out, show a + t - a = t by omega, HE.out]; simp
                        · rw [if_neg e]
                          have : ¬ i - a = tkG c := by rw [← HE.out]; omega
                          simp [this]), (fun k hk => by
                        have h2 := hT.out k hk
                        show (wr.setCell ⟨g, a + t, none⟩ _).cell? ⟨gt, k, none⟩ = _
                        rw [World.cell?_setCell_other _ _ _ _ (fun e => hgt.out (by injection e))]; exact h2), (hb.setCell hg _).drew⟩
                    case measure => simp [intOf]; omega
                  · obtain rfl : c = 18 := by omega
                    go_wp2
                    go_roundw
                    case rel => exact ⟨a + 1, by omega, by go_num, hB.weak (by omega) (fun j h1 h2 => by rw [dv_step M r a j h1, ← HQ.out]; simp), hT, hb⟩
                    case measure => simp [intOf]; omega
            · obtain rfl : a = 8 * n := by omega
              have hB6 : Bw wr g (8 * n) (fun j => (rb M r (8 * n)).getLsbD (j - 8 * n)) (8 * n + 32) := hB.weak (Nat.le_refl _) (fun j h1 h2 => by rw [dv_def, hM0.out j h1]; simp)
              obtain ⟨R, hR⟩ : ∃ R, R = rb M r (8 * n) := ⟨_, rfl⟩
              have ER : Hid (R = ov r xs) := hR.trans EOV.out
              rw [← hR] at hB6
              clear hR
              clear hB hT
              go_wp2
              go_loopw [12, 13] (fun s i wr => ∃ k : Nat, k ≤ 32 ∧ i = .int .i64 k ∧ s = .int .u32 (rg (lows R k)) ∧ Bw wr g (8 * n) (fun j => R.getLsbD (j - 8 * n)) (8 * n + 32) ∧ Below w.heap.size w wr) (fun _ i _ => 32 - (intOf i).toNat)
              case atStart => exact ⟨0, Nat.zero_le _, rfl, by unfold lows; rw [rg_zero], hB6, hb⟩
              case round =>
                clear hB6 hb
                obtain ⟨k, hk, rfl, rfl, hB, hb⟩ := hrel
                by_cases hlt : k < 32
                · have hi : (k : Int) < 32 := by omega
                  have g1 := hB.cell (show 8 * n ≤ 8 * n + k by omega) (show 8 * n + k < 8 * n + 32 by omega)
                  rw [show 8 * n + k - 8 * n = k by omega] at g1
                  have hp := rg_put R k hlt
                  obtain ⟨q, hq⟩ : ∃ q, q = R.getLsbD k := ⟨_, rfl⟩
                  rw [← hq] at g1 hp
                  clear hq
                  have q1 : bi q % 4294967296 = bi q := by cases q <;> (unfold bi; rfl)
                  have hi4 : 8 * (n : Int) + (k : Int) < 8 * (n : Int) + 32 := by omega
                  go_wp2
                  go_roundw
                  case rel => exact ⟨k + 1, by omega, by go_num, rfl, hB, hb⟩
                  case measure => simp [intOf]; omega
                · obtain rfl : k = 32 := by omega
                  rw [lows_all]
                  go_wp2
                  go_ret
                  exact ⟨ret_int (by rw [ER.out]), hb⟩
theorem refSum_any {w : World} {a1 : Option Addr} {xs : List (BitVec 8)} (h1 : Rd w a1 xs) (n c1 : Nat) (hn : xs.length = n) (hm : n ≤ 1000000000) :
    Calls Tryz.prog 35 #[.slice a1 n c1] w fun e w' => e = .returned (.int .u32 (rg (cmo 0#32 xs))) ∧ Below w.heap.size w w' := by
  have hM := gone_any h1 4294967295#32 n c1 hn hm
  rw [show rg 4294967295#32 = 4294967295 by unfold rg; rfl] at hM
  have e1 : bits .xor .u32 (rg (ov 4294967295#32 xs)) 4294967295 = rg (cmo 0#32 xs) := by
    rw [show (4294967295 : Int) = rg 4294967295#32 by unfold rg; rfl, rg_xor, BitVec.xor_comm, ones_xor]; rfl
  go_enter Tryz.func35, Tryz.ntmps35
  go_wp2_with (go_at_call 58; refine hM.mono ?_; rintro e w1 ⟨rfl, hb1⟩)
  go_ret
  exact ⟨rfl, hb1⟩
end
end Go.Proofs.YtjobaeopokfekaaGreat
