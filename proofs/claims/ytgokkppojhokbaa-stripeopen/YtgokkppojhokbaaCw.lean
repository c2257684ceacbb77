/-
  The code's matrix: 'points', 'findFactors', 'New'.
-/
import Derived.Test.YtgokkppojhokbaaIn1
import Derived.Test.YtgokkppojhokbaaMt
import Derived.Test.YtgokkppojhokbaaKq
namespace Go.Proofs.Ytgokkppojhokbaa
open Go.RowKit
/-- Elimination ends, whatever is handed in. -/
theorem ech_all {K : Type} (D : Fd K) (r : Nat) (A : Nat → Nat → K) (c : Nat) : ∃ d N E F pv, Ech D r c d A N E F pv := by
  induction c with
  | zero => exact ⟨0, A, _, _, _, Ech.start D r A⟩
  | succ c ih =>
    obtain ⟨d, N, E, F, pv, h⟩ := ih
    rcases all_or_one (D := D) (fun j => if d ≤ j then N j c else D.oo) r with hz | ⟨b, hb, hn⟩
    · refine ⟨d, N, E, F, pv, h.skip (fun k hk hr => ?_)⟩
      have := hz k hr
      rw [if_pos hk] at this; exact this
    · by_cases hd : d ≤ b
      · rw [if_pos hd] at hn
        obtain ⟨E', F', h2⟩ := h.step hd hb hn
        exact ⟨_, _, E', F', _, h2⟩
      · rw [if_neg hd] at hn; exact absurd rfl hn
/-- There is an inverse on the left. -/
def Has (r : Nat) (P : Nat → Nat → BitVec 8) : Prop := ∃ X : Nat → Nat → BitVec 8, ∀ i, i < r → ∀ j, j < r → mm fdE r X P i j = dl fdE i j
theorem has_inj {n : Nat} {P : Nat → Nat → BitVec 8} (ha : ∀ y : Nat → BitVec 8, (∀ i, i < n → sm fdE (fun j => fdE.ti (P i j) (y j)) n = fdE.oo) → ∀ j, j < n → y j = fdE.oo) : Has n P := by
  obtain ⟨d, N, E, F, pv, h⟩ := ech_all fdE n P n
  have hd : d = n := h.all (fun _ _ _ _ => rfl) ha
  subst hd
  exact ⟨E, fun i hi j hj => by rw [← h.full hi hj, h.req.eq i hi]⟩
theorem has_pts {n : Nat} {x : Nat → BitVec 8} (hx : ∀ i, i < n → ∀ j, j < n → i ≠ j → x i ≠ x j) : Has n (fun i j => po fdE (x i) j) :=
  has_inj (fun y hy => vander n x y hx (fun i hi => by rw [← hy i hi]; exact sm_congr (fun j _ => fdE.ti_comm _ _)))
theorem inverse_ok {w : World} {v : Value} {r : Nat} {l : Nat → Nat} {P : Nat → Nat → BitVec 8} (h : NmE w v r l P) (hq : sq r l = 0) (hX : Has r P) :
    Calls Try.prog 41 #[v] w fun e w' => ∃ v' X, e = .returned (.tuple #[v', .int .i64 0]) ∧ GxE w.heap.size w' v' r r X ∧ (∀ i, i < r → ∀ j, j < r → mm fdE r X P i j = dl fdE i j) ∧ (∀ i, i < r → ∀ j, j < r → mm fdE r P X i j = dl fdE i j) ∧ Below w.heap.size w w' := by
  obtain ⟨p1, c1, e1⟩ := (show ∃ p c, v = .slice p r c from by obtain ⟨rows, h, _⟩ := h; exact h.form)
  subst e1
  refine (inverse_core p1 r c1 l P w hq h).mono fun e w' hd => ?_
  rcases hd with hd | ⟨_, hno, _⟩
  · exact hd
  · obtain ⟨X, hX⟩ := hX
    exact absurd hX (hno X)
/-- The point of a place. -/
def pt (i : Nat) : BitVec 8 := BitVec.ofNat 8 i
theorem el_pt {i : Nat} (h : i < 256) : el (pt i) = (i : Int) := by unfold el pt; rw [BitVec.toNat_ofNat, Nat.mod_eq_of_lt (by omega)]
theorem pt_ne {i j : Nat} (hi : i < 256) (hj : j < 256) (h : i ≠ j) : pt i ≠ pt j := fun e => by
  have h1 := el_pt hi
  have h2 := el_pt hj
  rw [e] at h1
  omega
/-- The first rows, and those behind them. -/
theorem GmE.pre {w : World} {B r l : Nat} {ρ : Nat → Nat} {N : Nat → Nat → BitVec 8} (h : GmE w B r l ρ N) {k : Nat} (hk : k ≤ r) (c : Nat) : NmE w (.slice (some ⟨B, 0, none⟩) k c) k (fun _ => l) N :=
  ⟨fun i => .slice (some ⟨ρ i, 0, none⟩) l l, ⟨_, _, rfl, .inr ⟨_, _, rfl, fun i hi => by rw [Nat.zero_add]; exact h.out (by omega)⟩⟩, fun i hi => St.sv ((Gr.row h i (by omega)).st l l)⟩
theorem GmE.suf {w : World} {B r l : Nat} {ρ : Nat → Nat} {N : Nat → Nat → BitVec 8} (h : GmE w B r l ρ N) {k m : Nat} (hk : k + m ≤ r) (c : Nat) : NmE w (.slice (some ⟨B, k, none⟩) m c) m (fun _ => l) (fun i => N (k + i)) :=
  ⟨fun i => .slice (some ⟨ρ (k + i), 0, none⟩) l l, ⟨_, _, rfl, .inr ⟨_, _, rfl, fun i hi => h.out (by omega)⟩⟩, fun i hi => St.sv ((Gr.row h (k + i) (by omega)).st l l)⟩
theorem ov_owns {w : World} {t : TypeId} {g n base : Nat} {f : Nat → Value} (h : Ov w t g f n) (hb : base ≤ g) (hn : n ≤ 1000) : w.ownsRow base t 1 (.slice (some ⟨g, 0, none⟩) n n) n (lv f n) :=
  ⟨by rw [lv_len, Nat.mul_one], .inr ⟨g, n, rv f n, rfl, hb, h, Nat.le_refl _, by unfold maxLen; omega, by rw [rv_size, Nat.mul_one], by rw [rv_toList, List.take_of_length_le (by simp)]; rfl⟩⟩
theorem sq_con {n : Nat} (hn : n ≤ 255) : sq n (fun _ => n) = 0 := by
  unfold sq
  rw [fc_ok (by omega) (fun k _ => by omega) (fun k _ => rfl)]
  unfold cw
  by_cases e : n = 0
  · subst e; rfl
  · simp [e]
theorem pwk_po (x : BitVec 8) (j : Nat) : pwk tiE x 1#8 j = po fdE x j := by
  induction j with
  | zero => rfl
  | succ j ih => rw [pwk_succ, ih]; rfl
theorem skk_mm (r : Nat) (P Q : Nat → Nat → BitVec 8) (i j : Nat) : skk plE oE (fun t => tiE (P i t) (Q t j)) r = mm fdE r P Q i j := by
  unfold mm
  induction r with
  | zero => rfl
  | succ n ih => rw [skk_succ, ih]; rfl
/-- The values of the powers at the places. -/
def vm (i j : Nat) : BitVec 8 := po fdE (pt i) j
/-- F is the matrix of the code of k: the powers' values, turned back at the first k places. -/
def Fac (k : Nat) (F : Nat → Nat → BitVec 8) : Prop := ∃ X : Nat → Nat → BitVec 8, (∀ i, i < k → ∀ j, j < k → mm fdE k X vm i j = dl fdE i j) ∧ (∀ i, i < k → ∀ j, j < k → mm fdE k vm X i j = dl fdE i j) ∧ ∀ i j, F i j = mm fdE k vm X i j
theorem vm_has {k : Nat} {p : Nat → Nat} (hp : ∀ i, i < k → p i < 256) (hi : ∀ i, i < k → ∀ j, j < k → i ≠ j → p i ≠ p j) : Has k (fun i j => vm (p i) j) :=
  has_pts (x := fun i => pt (p i)) (fun i h1 j h2 hne => pt_ne (hp i h1) (hp j h2) (hi i h1 j h2 hne))
theorem Fac.id {k : Nat} {F : Nat → Nat → BitVec 8} (h : Fac k F) {i j : Nat} (hi : i < k) (hj : j < k) : F i j = dl fdE i j := by
  obtain ⟨X, _, h2, h3⟩ := h
  rw [h3, h2 i hi j hj]
/-- Any k of its rows have an inverse. -/
theorem Fac.has {k : Nat} {F : Nat → Nat → BitVec 8} (h : Fac k F) {p : Nat → Nat} (hp : ∀ i, i < k → p i < 256) (hi : ∀ i, i < k → ∀ j, j < k → i ≠ j → p i ≠ p j) : Has k (fun i j => F (p i) j) := by
  obtain ⟨X, _, h2, h3⟩ := h
  obtain ⟨Y, hY⟩ := vm_has hp hi
  refine ⟨mm fdE k vm Y, fun i hi2 j hj => ?_⟩
  rw [mm_congr (A' := mm fdE k vm Y) (B' := mm fdE k (fun i j => vm (p i) j) X) (fun _ _ => rfl) (fun t ht => h3 (p t) j), mm_assoc, mm_congr (A' := vm) (B' := X) (fun _ _ => rfl) (fun t ht => ?_), h2 i hi2 j hj]
  rw [← mm_assoc, mm_congr (A' := dl fdE) (B' := X) (fun s hs => hY t ht s hs) (fun _ _ => rfl), mm_dl_l ht]
section
attribute [local irreducible] Calls el Ov clE pt
set_option maxHeartbeats 4000000 in
set_option maxRecDepth 1000000 in
theorem points_core (n : Nat) (hn : n ≤ 255) (w : World) : Calls Try.prog 40 #[.int .i64 (n : Int)] w fun e w' => ∃ g, e = .returned (.slice (some ⟨g, 0, none⟩) n n) ∧ Ov w' 83 g (clE pt) n ∧ w.heap.size ≤ g ∧ Below w.heap.size w w' := by
  have hm1 := makeE n (by omega)
  have HO0 : Hid (Ov (w.alloc (.cells (Array.replicate (n * 1) (.int .u8 0)) 83)) 83 w.heap.size (fun i => if i < 0 then clE pt i else .int .u8 0) n) := by
    rw [Nat.mul_one]
    exact (ov_new w 83 (.int .u8 0) n).congr (fun i _ => by rw [if_neg (by omega)])
  have HB0 : Hid (Below w.heap.size w (w.alloc (.cells (Array.replicate (n * 1) (.int .u8 0)) 83))) := (Below.refl _ _).alloc (Nat.le_refl _) _
  rw [Nat.mul_one] at HO0 HB0
  go_enter Try.func40, Try.ntmps40
  go_wp2
  clear hm1
  go_loopw [9] (fun i wr => ∃ k : Nat, k ≤ n ∧ i = .int .i64 k ∧ Ov wr 83 w.heap.size (fun i => if i < k then clE pt i else .int .u8 0) n ∧ Below w.heap.size w wr) (fun i _ => n - (intOf i).toNat)
  case atStart => exact ⟨0, Nat.zero_le _, rfl, HO0.out, HB0.out⟩
  case round =>
    clear HO0 HB0
    obtain ⟨k, hk, rfl, hO, hb⟩ := hrel
    by_cases hlt : k < n
    · have j1 : (k : Int) < (n : Int) := by omega
      have j2 : (0 : Int) ≤ (k : Int) := by omega
      have j3 : (k : Int) < 256 := by omega
      have g1 := hO.cell hlt
      have g2 := hO.frozen k
      rw [if_neg (Nat.lt_irrefl k)] at g1
      have EP : Hid (el (pt k) = (k : Int)) := el_pt (by omega)
      have HP := (show Hid _ from (hO.set hlt (.int .u8 (k : Int))))
      have HB := (show Hid _ from hb.setCell (Nat.le_refl _) (p := ⟨w.heap.size, k, none⟩) (.int .u8 (k : Int)))
      clear hO hb
      go_wp2
      go_roundw
      case rel =>
        refine ⟨k + 1, by omega, by go_num, HP.out.congr (fun i _ => ?_), HB.out⟩
        by_cases e : i = k
        · subst e; rw [if_pos rfl, if_pos (by omega)]; unfold clE; rw [EP.out]
        · rw [if_neg e]
          by_cases e2 : i < k
          · rw [if_pos e2, if_pos (by omega)]
          · rw [if_neg e2, if_neg (by omega)]
      case measure => simp [intOf]; omega
    · obtain rfl : k = n := by omega
      go_wp2
      go_ret
      exact ⟨_, rfl, hO.congr (fun i hi => by rw [if_pos hi]), Nat.le_refl _, hb⟩
end
theorem tc_con {r k : Nat} (hr : r ≤ 255) (h0 : r ≠ 0) (hk : k ≤ 255) : tc r (fun _ => k) k (fun _ => k) = 0 := by
  have hc : ∀ n, n ≠ 0 → cw n (fun _ => k) = k := fun n hn => by unfold cw; rw [if_neg hn]
  exact tc_ok (fc_ok (by omega) (fun _ _ => by omega) (fun _ _ => rfl)) (fc_ok (by omega) (fun _ _ => by omega) (fun _ _ => rfl)) (hc r h0)
theorem cw_con (k : Nat) : cw k (fun _ => k) = k := by unfold cw; by_cases e : k = 0; rw [if_pos e]; omega; rw [if_neg e]
theorem vE_one : vE 1#8 = .int .u8 1 := congrArg (Value.int .u8) (show el 1#8 = 1 by decide +kernel)
theorem powers_one {g n k : Nat} {w : World} (hn : n ≤ 255) (hk : k ≤ 255) (hO : Ov w 83 g (clE pt) n) :
    Calls Try.prog 39 #[.slice (some ⟨g, 0, none⟩) n n, .int .i64 (k : Int), .int .u8 1] w fun e w' => ∃ B ρ, e = .returned (.tuple #[.slice (some ⟨B, 0, none⟩) n n, .int .i64 0]) ∧ GmE w' B n k ρ vm ∧ w.heap.size ≤ B ∧ Below w.heap.size w w' := by
  have h := powersE_core g 0 n n k pt 1#8 w hn hk (fun i hi => by rw [Nat.zero_add]; exact hO.cell hi)
  rw [vE_one] at h
  exact h.mono fun e w' ⟨v, he, ⟨B, ρ, e2, hG, hB, _⟩, hb⟩ => ⟨B, ρ, by rw [he, e2], hG.congr (fun i _ j _ => pwk_po _ _), hB, hb⟩
theorem identity_one {k : Nat} (hk : k ≤ 255) (w : World) :
    Calls Try.prog 43 #[.int .i64 (k : Int), .int .u8 1] w fun e w' => ∃ B ρ, e = .returned (.tuple #[.slice (some ⟨B, 0, none⟩) k k, .int .i64 0]) ∧ GmE w' B k k ρ (dl fdE) ∧ w.heap.size ≤ B ∧ Below w.heap.size w w' := by
  have h := identityE_ok k hk 1#8 w
  rw [vE_one] at h
  exact h.mono fun e w' ⟨v, he, ⟨B, ρ, e2, hG, hB, _⟩, hb⟩ => ⟨B, ρ, by rw [he, e2], hG.congr (fun i _ j _ => rfl), hB, hb⟩
theorem inverse_vm {k r B : Nat} {ρ : Nat → Nat} {w : World} (hk : k ≤ 255) (hkr : k ≤ r) (hG : GmE w B r k ρ vm) (c : Nat) :
    Calls Try.prog 41 #[.slice (some ⟨B, 0, none⟩) k c] w fun e w' => ∃ v X, e = .returned (.tuple #[v, .int .i64 0]) ∧ NmE w' v k (fun _ => k) X ∧ (∀ i, i < k → ∀ j, j < k → mm fdE k X vm i j = dl fdE i j) ∧ (∀ i, i < k → ∀ j, j < k → mm fdE k vm X i j = dl fdE i j) ∧ Below w.heap.size w w' :=
  (inverse_ok (hG.pre hkr c) (sq_con hk) (has_pts (x := pt) (fun i hi j hj => pt_ne (by omega) (by omega)))).mono fun e w' ⟨v, X, he, hX, h1, h2, hb⟩ => ⟨v, X, he, GxE.nm hX, h1, h2, hb⟩
theorem times_vm {k m r B : Nat} {ρ : Nat → Nat} {w : World} {v : Value} {X : Nat → Nat → BitVec 8} (hk : k ≤ 255) (hm : m ≤ 255) (h0 : m ≠ 0) (hkr : k + m ≤ r) (hG : GmE w B r k ρ vm) (hX : NmE w v k (fun _ => k) X) (c : Nat) :
    Calls Try.prog 42 #[.slice (some ⟨B, k, none⟩) m c, v] w fun e w' => ∃ B ρ, e = .returned (.tuple #[.slice (some ⟨B, 0, none⟩) m m, .int .i64 0]) ∧ GmE w' B m k ρ (fun i j => mm fdE k vm X (k + i) j) ∧ w.heap.size ≤ B ∧ Below w.heap.size w w' := by
  have h := timesE_new (hG.suf hkr c) hX (tc_con hm h0 hk)
  rw [cw_con] at h
  exact h.mono fun e w' ⟨v, he, ⟨B, ρ, e2, hG, hB, _⟩, hb⟩ => ⟨B, ρ, by rw [he, e2], hG.congr (fun i _ j _ => by rw [skk_mm (P := fun i => vm (k + i))]; rfl), hB, hb⟩
theorem gmE_gr {w : World} {B r l : Nat} {ρ : Nat → Nat} {N : Nat → Nat → BitVec 8} (h : GmE w B r l ρ N) : Gr w 84 83 B r l l ρ (fun i => clE (N i)) := h
theorem lv_cells {w : World} {B r l : Nat} {ρ : Nat → Nat} {N : Nat → Nat → BitVec 8} (h : GmE w B r l ρ N) {j : Nat} {u : Value} (hj : (lv (fun i => Value.slice (some ⟨ρ i, 0, none⟩) l l) r)[j]? = some u) : w.cell? ((⟨B, 0, none⟩ : Addr).add j) = some u := by
  have hjn : j < r := by
    rcases Nat.lt_or_ge j r with h | h
    · exact h
    · rw [List.getElem?_eq_none (by rw [lv_len]; exact h)] at hj; cases hj
  rw [lv_at _ r j hjn] at hj
  rw [add_pl, Nat.zero_add, h.out hjn]; exact hj
theorem lv_ones (ρ : Nat → Nat) (l : Nat) {n : Nat} : ∀ u ∈ lv (fun i => Value.slice (some ⟨ρ i, 0, none⟩) l l) n, u.oneCell' = true := fun u hu => by
  unfold lv at hu; obtain ⟨i, _, rfl⟩ := List.mem_map.1 hu; rfl
theorem lv_app (f g : Nat → Value) (n m : Nat) : lv f n ++ lv g m = lv (fun i => if i < n then f i else g (i - n)) (n + m) := by
  induction m with
  | zero => rw [show lv g 0 = [] from rfl, List.append_nil, Nat.add_zero]; exact lv_congr (fun i hi => by rw [if_pos hi])
  | succ m ih => rw [lv_succ, ← List.append_assoc, ih, ← Nat.add_assoc, lv_succ, if_neg (by omega), Nat.add_sub_cancel_left]
theorem ov_away {w w' : World} {t : TypeId} {g n : Nat} {f : Nat → Value} (h : Ov w t g f n) {base k m : Nat} {t' : TypeId} {u : Value} {us : List Value} (ho : w.ownsRow base t' k u m us) (hg : w.grownBy w' u.ownBlock) (ht : t ≠ t') : Ov w' t g f n := h.grown ho hg ht
/-- Two lists of rows put together. -/
theorem joined {w w' : World} {base k m B5 B4 : Nat} {ρ5 ρ4 : Nat → Nat} {v' u : Value} {N F P : Nat → Nat → BitVec 8} {us : List Value} (hown : w'.ownsRow base 84 1 v' (k + m) (lv (fun i => .slice (some ⟨ρ5 i, 0, none⟩) k k) k ++ lv (fun i => .slice (some ⟨ρ4 i, 0, none⟩) k k) m))
    (h5 : Gr w 84 83 B5 k k k ρ5 (fun i => clE (N i))) (h4 : Gr w 84 83 B4 m k k ρ4 (fun i => clE (P i))) (ho : w.ownsRow base 84 1 u k us) (hg : w.grownBy w' u.ownBlock) (hN : ∀ i, i < k → ∀ j, j < k → N i j = F i j) (hP : ∀ i j, P i j = F (k + i) j) : NmE w' v' (k + m) (fun _ => k) F := by
  rw [lv_app] at hown
  refine ⟨_, St.sv (owns_st1 hown), fun i hi => ?_⟩
  by_cases e : i < k
  · rw [if_pos e]
    exact St.sv ((((h5.row i e).grown ho hg (by decide)).congr (fun j hj => by unfold clE; rw [hN i e j hj])).st k k)
  · rw [if_neg e]
    exact St.sv ((((h4.row (i - k) (by omega)).grown ho hg (by decide)).congr (fun j hj => by unfold clE; rw [hP, show k + (i - k) = i by omega])).st k k)
section
attribute [local irreducible] Calls el Ov clE pt GmE NmE po mm dl fdE vm lv
set_option maxHeartbeats 8000000 in
set_option maxRecDepth 1000000 in
theorem factors_core (k m : Nat) (hk : 1 ≤ k) (hm : 1 ≤ m) (hkm : k + m ≤ 255) (w : World) : Calls Try.prog 24 #[.int .i64 (k : Int), .int .i64 (m : Int)] w fun e w' => ∃ p c F, e = .returned (.slice p (k + m) c) ∧ k + m ≤ c ∧ NmE w' (.slice p (k + m) c) (k + m) (fun _ => k) F ∧ Fac k F ∧ Below w.heap.size w w' := by
  have PT := (show Hid _ from points_core (k + m) hkm w)
  rw [Int.natCast_add] at PT
  have e1 : wrap64 ((k : Int) + (m : Int)) = (k : Int) + (m : Int) := by unfold wrap64; omega
  have j1 : (0 : Int) ≤ (k : Int) := by omega
  have j2 : (k : Int) ≤ (k : Int) + (m : Int) := by omega
  have kn : ¬ m = 0 := by omega
  obtain ⟨i0, hi0, hz0, hz1, hz2⟩ := info_parts infoER
  go_enter Try.func24, Try.ntmps24
  go_wp2_with (first
    | (go_at_call 40; refine PT.out.mono ?_; rintro e w1 ⟨g, rfl, hO1, hg1, hb1⟩)
    | (go_at_call 39; refine (powers_one hkm (by omega) hO1).mono ?_; rintro e w2 ⟨B, ρ, rfl, hG2, hB2, hb2⟩)
    | (go_at_call 41; refine (inverse_vm (by omega) (by omega) hG2 _).mono ?_; rintro e w3 ⟨v3, X, rfl, hX3, hx1, hx2, hb3⟩)
    | (go_at_call 42; refine (times_vm (m := m) (by omega) (by omega) (by omega) (Nat.le_refl _) (GmE.below hG2 hb3) hX3 _).mono ?_; rintro e w4 ⟨B4, ρ4, rfl, hG4, hB4, hb4⟩)
    | (go_at_call 43; refine (identity_one (by omega) _).mono ?_; rintro e w5 ⟨B5, ρ5, rfl, hG5, hB5, hb5⟩; have HOW : Hid (World.ownsRow w5 w.heap.size 84 1 (.slice (some ⟨B5, 0, none⟩) k k) k (lv (fun i => .slice (some ⟨ρ5 i, 0, none⟩) k k) k)) := ov_owns (Gr.out (gmE_gr hG5)) (by have := hb1.size; have := hb2.size; have := hb3.size; have := hb4.size; omega) (by omega); have HN4 := (show Hid _ from GmE.below hG4 hb5); have HS : Hid (∀ j u, (lv (fun i => Value.slice (some ⟨ρ4 i, 0, none⟩) k k) m)[j]? = some u → w5.cell? ((⟨B4, 0, none⟩ : Addr).add j) = some u) := (fun j u hj => lv_cells HN4.out hj))
    | (at_builtin; refine wpList_append_own _ rfl _ _ 67 rfl w.heap.size 84 i0 (.slice none 0 0) 1 24 Try.underlying67 hi0 hz0 hz1 hz2 rfl (by decide) _ _ _ rfl HOW.out ⟨B4, 0, none⟩ m m (lv (fun i => .slice (some ⟨ρ4 i, 0, none⟩) k k) m) rfl (by rw [lv_len, Nat.mul_one]) HS.out (lv_ones _ _) (by unfold maxLen; omega) (by omega) (by have := hb1.size; have := hb2.size; have := hb3.size; have := hb4.size; have := hb5.size; omega) ?_; intro v' w6 hown' hgrow _))
  go_ret
  have hb6 := below_append (bt (bt (bt (bt hb1 hb2) hb3) hb4) hb5) (by have := hb1.size; have := hb2.size; have := hb3.size; have := hb4.size; have := hb5.size; omega) hgrow HOW.out (Nat.le_refl _)
  obtain ⟨g6, c6, e6, _, _, hc6, _⟩ := owns_some hown' (by omega)
  subst e6
  refine ⟨_, _, mm fdE k vm X, rfl, hc6, ?_, ⟨X, hx1, hx2, fun _ _ => rfl⟩, hb6⟩
  exact joined hown' (gmE_gr hG5) (gmE_gr HN4.out) HOW.out hgrow (fun i hi j hj => (hx2 i hi j hj).symm) (fun i j => rfl)
end
end Go.Proofs.Ytgokkppojhokbaa
/-
  'New'; a code.
-/
namespace Go.Proofs.Ytgokkppojhokbaa
open Go.RowKit
/-- v points to the code of k and m whose matrix is F. -/
def Cd (w : World) (v : Value) (k m : Nat) (F : Nat → Nat → BitVec 8) : Prop := ∃ cb p c, v = .pointer (some ⟨cb, 0, none⟩) ∧ w.cell? ⟨cb, 0, none⟩ = some (.int .i64 (k : Int)) ∧ w.cell? ⟨cb, 1, none⟩ = some (.slice p (k + m) c) ∧ k + m ≤ c ∧ NmE w (.slice p (k + m) c) (k + m) (fun _ => k) F
theorem Cd.below {w w' : World} {v : Value} {k m : Nat} {F : Nat → Nat → BitVec 8} (h : Cd w v k m F) (hb : Below w.heap.size w w') : Cd w' v k m F := by
  obtain ⟨cb, p, c, e, h1, h2, h4, h3⟩ := h
  exact ⟨cb, p, c, e, cell_below h1 hb, cell_below h2 hb, h4, h3.below hb⟩
theorem cd_new {w : World} {k m c : Nat} {p : Option Addr} {F : Nat → Nat → BitVec 8} (h : NmE w (.slice p (k + m) c) (k + m) (fun _ => k) F) (hc : k + m ≤ c) (t : TypeId) : Cd (w.alloc (.cells #[.int .i64 (k : Int), .slice p (k + m) c] t)) (.pointer (some ⟨w.heap.size, 0, none⟩)) k m F :=
  ⟨w.heap.size, p, c, rfl, by rw [cell_of_row _ _ _ _ _ (0, 0) (heap_alloc_new w _)]; rfl, by rw [cell_of_row _ _ _ _ _ (0, 0) (heap_alloc_new w _)]; rfl, hc, h.below ((Below.refl _ _).alloc (Nat.le_refl _) _)⟩
theorem nmE_form {w : World} {v : Value} {r : Nat} {l : Nat → Nat} {N : Nat → Nat → BitVec 8} (h : NmE w v r l N) : ∃ p c, v = .slice p r c := by obtain ⟨rows, h, _⟩ := h; exact h.form
section
attribute [local irreducible] Calls NmE Fac
set_option maxHeartbeats 4000000 in
set_option maxRecDepth 1000000 in
theorem new_ok (k m : Nat) (hm : 1 ≤ m) (hmk : m ≤ k) (hkm : k + m ≤ 255) (w : World) : Calls Try.prog 14 #[.int .i64 (k : Int), .int .i64 (m : Int)] w fun e w' => ∃ v F, e = .returned (.tuple #[v, .int .i64 0]) ∧ Cd w' v k m F ∧ Fac k F ∧ Below w.heap.size w w' := by
  have j1 : ¬ (m : Int) < 1 := by omega
  have j2 : ¬ (k : Int) < (m : Int) := by omega
  have j3 : ¬ 255 - (m : Int) < (k : Int) := by omega
  have e1 : wrap64 (255 - (m : Int)) = 255 - (m : Int) := by unfold wrap64; omega
  go_enter Try.func14, Try.ntmps14
  go_wp2_with (go_at_call 24; refine (factors_core k m (by omega) hm hkm w).mono ?_; rintro e w1 ⟨p1, c1, F, rfl, hc1, hN1, hF, hb1⟩)
  go_ret2
  exact ⟨_, F, rfl, cd_new hN1 hc1 _, hF, hb1.alloc hb1.size _⟩
end
end Go.Proofs.Ytgokkppojhokbaa
