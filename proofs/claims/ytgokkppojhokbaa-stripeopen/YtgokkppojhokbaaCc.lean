/-
  'clearColumn' over the field of 256.
-/
import Derived.Test.YtgokkppojhokbaaAmF
import Derived.Test.YtgokkppojhokbaaBu
import Derived.Test.YtgokkppojhokbaaPow
import Derived.Test.YtgokkppojhokbaaMr
import Derived.Deep.RegionHeld3
namespace Go.Proofs.Ytgokkppojhokbaa
open Go.RowKit
/-- The places below k where f isn't zero. -/
def Lz (f : Nat → BitVec 8) (k : Nat) : List Nat := (List.range k).filter (fun j => !(f j == 0#8))
theorem lz_pos {f : Nat → BitVec 8} {k : Nat} (h : ¬ f k = 0#8) : Lz f (k + 1) = Lz f k ++ [k] := by
  unfold Lz
  rw [List.range_succ, List.filter_append]
  have : (!(f k == 0#8)) = true := by simpa using h
  simp [this]
theorem lz_neg {f : Nat → BitVec 8} {k : Nat} (h : f k = 0#8) : Lz f (k + 1) = Lz f k := by
  unfold Lz
  rw [List.range_succ, List.filter_append]
  simp [h]
theorem lz_mem {f : Nat → BitVec 8} {k j : Nat} : j ∈ Lz f k ↔ j < k ∧ f j ≠ 0#8 := by
  unfold Lz; rw [List.mem_filter, List.mem_range]; simp
theorem lz_len (f : Nat → BitVec 8) (k : Nat) : (Lz f k).length ≤ k := by
  unfold Lz
  have := List.length_filter_le (fun j => !(f j == 0#8)) (List.range k)
  simpa using this
theorem lz_inc (f : Nat → BitVec 8) (k : Nat) : (Lz f k).Pairwise (· < ·) := List.Pairwise.filter _ List.pairwise_lt_range
theorem lz_new {f : Nat → BitVec 8} {k u : Nat} (hu : u < (Lz f k).length) : (Lz f k)[u] ∉ (Lz f k).take u := by
  intro h
  obtain ⟨v, hv, e⟩ := List.mem_iff_getElem.1 h
  rw [List.getElem_take] at e
  have hv2 : v < u := by rw [List.length_take] at hv; omega
  have := List.pairwise_iff_getElem.1 (lz_inc f k) v u (by omega) hu hv2
  omega
theorem lz_take {f : Nat → BitVec 8} {k u j : Nat} (hu : u < (Lz f k).length) : j ∈ (Lz f k).take (u + 1) ↔ j ∈ (Lz f k).take u ∨ j = (Lz f k)[u] := by
  rw [← List.take_append_getElem hu, List.mem_append, List.mem_singleton]
/-- The list of places as values. -/
def pvs (L : List Nat) : List Value := L.map (fun (j : Nat) => Value.int .i64 (j : Int))
theorem pvs_app (L : List Nat) (k : Nat) : pvs L ++ [.int .i64 (k : Int)] = pvs (L ++ [k]) := by unfold pvs; rw [List.map_append]; rfl
theorem Ov.grown {w w' : World} {t : TypeId} {g n : Nat} {f : Nat → Value} (h : Ov w t g f n) {base k m : Nat} {t' : TypeId} {u : Value} {us : List Value} (ho : w.ownsRow base t' k u m us) (hg : w.grownBy w' u.ownBlock) (ht : t ≠ t') : Ov w' t g f n := by
  unfold Ov at h ⊢
  rw [hg.block g (lt_of_block h) ?_]
  · exact h
  · intro hb
    rcases ho.2 with ⟨hv, _⟩ | ⟨g', cap, cur, hv, _, hh, _⟩
    · rw [hv] at hb; cases hb
    · rw [hv] at hb
      injection hb with hb
      subst hb
      rw [hh] at h
      injection h with h
      injection h with _ h _
      exact ht h.symm
theorem GmE.grown {w w' : World} {B r l : Nat} {ρ : Nat → Nat} {N : Nat → Nat → BitVec 8} (h : GmE w B r l ρ N) {base m : Nat} {u : Value} {us : List Value} (ho : w.ownsRow base 3 1 u m us) (hg : w.grownBy w' u.ownBlock) : GmE w' B r l ρ N :=
  ⟨(Gr.out h).grown ho hg (by decide), fun i hi => (Gr.row h i hi).grown ho hg (by decide), Gr.ne h, Gr.inj h⟩
theorem GmE.heap {w W : World} {B r l : Nat} {ρ : Nat → Nat} {N : Nat → Nat → BitVec 8} (h : GmE w B r l ρ N) (e : W.heap = w.heap) : GmE W B r l ρ N := ⟨(Gr.out h).heap e, fun i hi => (Gr.row h i hi).heap e, Gr.ne h, Gr.inj h⟩
theorem GmE.bd {w : World} {B r l : Nat} {ρ : Nat → Nat} {N : Nat → Nat → BitVec 8} (h : GmE w B r l ρ N) {i : Nat} (hi : i < r) : ρ i < w.heap.size := (Gr.row h i hi).lt
theorem owns_away {w : World} {base k m : Nat} {t : TypeId} {u : Value} {us : List Value} (ho : w.ownsRow base t k u m us) (p : Addr) (x : Value) (hp : u.ownBlock ≠ some p.block) : (w.setCell p x).ownsRow base t k u m us := by
  refine ⟨ho.1, ?_⟩
  rcases ho.2 with h | ⟨g, cap, cur, hv, hg, hh, hr⟩
  · exact .inl h
  · refine .inr ⟨g, cap, cur, hv, hg, ?_, hr⟩
    rw [heap_setCell_other _ _ _ _ (fun e => hp (by rw [hv, ← e]; rfl))]; exact hh
theorem owns_not {w : World} {base k m : Nat} {t t' : TypeId} {u : Value} {us : List Value} (ho : w.ownsRow base t k u m us) {g n : Nat} {f : Nat → Value} (h : Ov w t' g f n) (ht : t' ≠ t) : u.ownBlock ≠ some g := by
  intro hb
  rcases ho.2 with ⟨hv, _⟩ | ⟨g', cap, cur, hv, _, hh, _⟩
  · rw [hv] at hb; cases hb
  · rw [hv] at hb
    injection hb with hb
    subst hb
    unfold Ov at h
    rw [hh] at h
    injection h with h
    injection h with _ h _
    exact ht h.symm
theorem owns_read {w : World} {base : Nat} {t : TypeId} {q g cap : Nat} {us : List Value} (h : w.ownsRow base t 1 (.slice (some ⟨g, 0, none⟩) q cap) q us) {u : Nat} {x : Value} (hu : us[u]? = some x) : w.cell? ⟨g, u, none⟩ = some x := by
  rcases h.2 with ⟨hv, _⟩ | ⟨g', cap', c, hv, _, hh, _, _, _, ht⟩
  · cases hv
  · injection hv with hv _ _
    injection hv with hv
    injection hv with hv
    subst hv
    rw [cell_of_row w g u _ _ _ hh]
    rw [← ht] at hu
    have hlt : u < q * 1 := by
      rcases Nat.lt_or_ge u (q * 1) with h | h
      · exact h
      · rw [List.getElem?_eq_none (by rw [List.length_take]; omega)] at hu; cases hu
    rw [List.getElem?_take_of_lt hlt] at hu
    simpa using hu
theorem pvs_at {L : List Nat} {u : Nat} (hu : u < L.length) : (pvs L)[u]? = some (.int .i64 (L[u] : Nat)) := by
  unfold pvs; rw [List.getElem?_map, List.getElem?_eq_getElem hu]; rfl
/-- Behind the first step, and behind both. -/
def cl1 (N : Nat → Nat → BitVec 8) (a : Nat) (iv : BitVec 8) (i j : Nat) : BitVec 8 := if i = a then tiE (N a j) iv else N i j
def cl2 (N : Nat → Nat → BitVec 8) (a c : Nat) (iv : BitVec 8) (i j : Nat) : BitVec 8 := if i = a then tiE (N a j) iv else plE (N i j) (tiE (N i c) (tiE (N a j) iv))
def cl3 (N : Nat → Nat → BitVec 8) (a c : Nat) (iv : BitVec 8) (L : List Nat) (k u i j : Nat) : BitVec 8 := if i < k then cl2 N a c iv i j else if i = k then (if j ∈ L.take u then cl2 N a c iv k j else N k j) else cl1 N a iv i j
theorem cl_a (N : Nat → Nat → BitVec 8) (a c : Nat) (iv : BitVec 8) (j : Nat) : cl1 N a iv a j = cl2 N a c iv a j := by unfold cl1 cl2; rw [if_pos rfl, if_pos rfl]
theorem cl_ne {N : Nat → Nat → BitVec 8} {a : Nat} {iv : BitVec 8} {i : Nat} (h : ¬ i = a) (j : Nat) : cl1 N a iv i j = N i j := by unfold cl1; rw [if_neg h]
theorem cl_zero {N : Nat → Nat → BitVec 8} {a c : Nat} {iv : BitVec 8} {i : Nat} (h : ¬ i = a) (hz : N i c = 0#8) (j : Nat) : cl2 N a c iv i j = N i j := by unfold cl2; rw [if_neg h, hz, plE_o _ _ (by decide)]
theorem cl_out {N : Nat → Nat → BitVec 8} {a c : Nat} {iv : BitVec 8} {i j : Nat} (h : ¬ i = a) (hz : N a j = 0#8) : cl2 N a c iv i j = N i j := by
  unfold cl2; rw [if_neg h, hz]; unfold plE tiE; rw [gm_zero_l, gm_zero]; simp
theorem cl_new {N : Nat → Nat → BitVec 8} {a c : Nat} {iv : BitVec 8} {i j : Nat} (h : ¬ i = a) : cl2 N a c iv i j = plE (N i j) (tiE (N i c) (tiE (N a j) iv)) := by unfold cl2; rw [if_neg h]
theorem cl3_row {N : Nat → Nat → BitVec 8} {a c : Nat} {iv : BitVec 8} {L : List Nat} {k u j : Nat} (h : j ∉ L.take u) : cl3 N a c iv L k u k j = N k j := by unfold cl3; rw [if_neg (Nat.lt_irrefl k), if_pos rfl, if_neg h]
theorem cl3_piv {N : Nat → Nat → BitVec 8} {a c : Nat} {iv : BitVec 8} {L : List Nat} {k u : Nat} (h : ¬ k = a) (j : Nat) : cl3 N a c iv L k u a j = tiE (N a j) iv := by
  unfold cl3
  by_cases e : a < k
  · rw [if_pos e]; unfold cl2; rw [if_pos rfl]
  · rw [if_neg e, if_neg (fun x => h x.symm)]; unfold cl1; rw [if_pos rfl]
theorem cl3_start {N : Nat → Nat → BitVec 8} {a c : Nat} {iv : BitVec 8} {L : List Nat} {k : Nat} (h : ¬ k = a) (i j : Nat) : (if i < k then cl2 N a c iv i j else cl1 N a iv i j) = cl3 N a c iv L k 0 i j := by
  unfold cl3
  by_cases e : i < k
  · rw [if_pos e, if_pos e]
  · rw [if_neg e, if_neg e]
    by_cases e2 : i = k
    · rw [if_pos e2, if_neg (by simp), e2, cl_ne h]
    · rw [if_neg e2]
theorem cl3_end {N : Nat → Nat → BitVec 8} {a c l : Nat} {iv : BitVec 8} {k : Nat} (h : ¬ k = a) (i j : Nat) (hj : j < l) : cl3 N a c iv (Lz (N a) l) k (Lz (N a) l).length i j = (if i < k + 1 then cl2 N a c iv i j else cl1 N a iv i j) := by
  unfold cl3
  rw [List.take_length]
  by_cases e : i < k
  · rw [if_pos e, if_pos (by omega)]
  · rw [if_neg e]
    by_cases e2 : i = k
    · rw [if_pos e2, if_pos (show i < k + 1 by omega), e2]
      by_cases e3 : j ∈ Lz (N a) l
      · rw [if_pos e3]
      · rw [if_neg e3]
        have hz : N a j = 0#8 := by
          by_cases h4 : N a j = 0#8
          · exact h4
          · exact absurd (lz_mem.2 ⟨hj, h4⟩) e3
        exact (cl_out h hz).symm
    · rw [if_neg e2, if_neg (by omega)]
theorem cl3_put {N : Nat → Nat → BitVec 8} {a c l : Nat} {iv : BitVec 8} {k u : Nat} (hu : u < (Lz (N a) l).length) (h : ¬ k = a) (i j : Nat) : (if i = k then (if j = (Lz (N a) l)[u] then plE (N k (Lz (N a) l)[u]) (tiE (N k c) (tiE (N a (Lz (N a) l)[u]) iv)) else cl3 N a c iv (Lz (N a) l) k u i j) else cl3 N a c iv (Lz (N a) l) k u i j) = cl3 N a c iv (Lz (N a) l) k (u + 1) i j := by
  unfold cl3
  by_cases e : i = k
  · subst e
    rw [if_pos rfl, if_neg (Nat.lt_irrefl i), if_neg (Nat.lt_irrefl i), if_pos rfl, if_pos rfl]
    by_cases e2 : j = (Lz (N a) l)[u]
    · rw [if_pos e2, if_pos ((lz_take hu).2 (.inr e2)), cl_new h, e2]
    · rw [if_neg e2]
      by_cases e3 : j ∈ (Lz (N a) l).take u
      · rw [if_pos e3, if_pos ((lz_take hu).2 (.inl e3))]
      · rw [if_neg e3, if_neg (fun x => by rcases (lz_take hu).1 x with x | x; exact e3 x; exact e2 x)]
  · rw [if_neg e, if_neg e, if_neg e]
section
attribute [local irreducible] Calls el Ov GmE clE Lz pvs tiE plE cl1 cl2 cl3
set_option maxHeartbeats 8000000 in
set_option maxRecDepth 1000000 in
theorem clear_core (B r l b0 a c : Nat) (ρ : Nat → Nat) (N : Nat → Nat → BitVec 8) (w : World) (hr : r ≤ 255) (hl : l ≤ 1000) (ha : a < r) (hc : c < l) (hG : GmE w B r l ρ N) (hne : Hid (N a c ≠ 0#8)) (hb0 : b0 ≤ w.heap.size) (hρ : Hid (∀ i, i < r → b0 ≤ ρ i)) :
    Calls Try.prog 60 #[.slice (some ⟨B, 0, none⟩) r r, .int .i64 (a : Int), .int .i64 (c : Int)] w fun e w' => e = .returned (.tuple #[]) ∧ GmE w' B r l ρ (cl2 N a c (inv (N a c))) ∧ Below b0 w w' := by
  have i1 : (a : Int) < (r : Int) := by omega
  have i2 : (c : Int) < (l : Int) := by omega
  have g1 := hG.out ha
  have g2 : w.cell? ⟨ρ a, c, none⟩ = some (.int .u8 (el (N a c))) := hG.cell ha hc
  obtain ⟨i0, hi, hz0, hz1, hz2⟩ := info_parts infoI
  have HG := (show Hid _ from hG)
  clear hG
  go_enter Try.func60, Try.ntmps60
  go_wp2_with (refine (inverse_any (N a c) hne.out _).mono ?_; rintro e w1 ⟨rfl, hb1⟩)
  obtain ⟨iv, hiv⟩ : ∃ iv, iv = inv (N a c) := ⟨_, rfl⟩
  rw [← hiv]
  have HIV : Hid (iv = inv (N a c)) := hiv
  have HG1 : Hid (GmE w1 B r l ρ (fun i j => if i = a ∧ j < 0 then tiE (N a j) iv else N i j)) := (HG.out.below hb1).congr (fun i _ j _ => by rw [if_neg (by omega)])
  have HB1 : Hid (Below b0 w w1) := hb1.mono hb0
  have S1 : b0 ≤ w1.heap.size := by have := hb1.size; omega
  have hla : (0 : Nat) ≤ l := Nat.zero_le _
  clear hiv g1 g2 hb1 HG
  go_loopw [9, 32] (fun v i wr => ∃ k : Nat, k ≤ l ∧ i = .int .i64 k ∧ wr.ownsRow w1.heap.size 3 1 v (Lz (N a) k).length (pvs (Lz (N a) k)) ∧ GmE wr B r l ρ (fun i j => if i = a ∧ j < k then tiE (N a j) iv else N i j) ∧ Below b0 w wr ∧ Hid (w1.heap.size ≤ wr.heap.size)) (fun _ i _ => l - (intOf i).toNat)
  case atStart => exact ⟨0, Nat.zero_le _, rfl, by unfold Lz pvs; exact World.ownsRow_nil _ _ _ _, HG1.out, HB1.out, Nat.le_refl _⟩
  case round =>
    clear HG1 HB1
    obtain ⟨k, hk, rfl, hown, hG, hb, hsz⟩ := hrel
    by_cases hlt : k < l
    · have j1 : (k : Int) < (l : Int) := by omega
      have g3 : wr.cell? ⟨ρ a, k, none⟩ = some (.int .u8 (el (N a k))) := by
        have h := hG.cell ha hlt
        rw [if_neg (by omega)] at h; exact h
      have g4 := hG.frozen ha k
      have HZ := (show Hid _ from fun w => isZero_any (N a k) w)
      by_cases hz : N a k = 0#8
      · have ez : (N a k == 0#8) = true := by simpa using hz
        rw [ez] at HZ
        have hown2 := hown
        rw [← lz_neg hz] at hown2
        have hG2 : GmE wr B r l ρ (fun i j => if i = a ∧ j < k + 1 then tiE (N a j) iv else N i j) := hG.congr (fun i _ j _ => by
          by_cases e : i = a ∧ j < k
          · rw [if_pos e, if_pos ⟨e.1, by omega⟩]
          · rw [if_neg e]
            by_cases e2 : i = a ∧ j < k + 1
            · obtain rfl : j = k := by omega
              rw [if_pos e2, e2.1, hz]; unfold tiE; rw [gm_zero_l]
            · rw [if_neg e2])
        clear hz ez
        go_wp2_with (refine (HZ.out _).mono ?_; rintro e w' ⟨rfl, h⟩; obtain rfl := h.symm)
        go_roundw
        case rel => exact ⟨k + 1, by omega, by go_num, hown2, hG2, hb, hsz⟩
        case measure => simp [intOf]; omega
      · have ez : (N a k == 0#8) = false := by simpa using hz
        rw [ez] at HZ
        have M1 : Hid ((Lz (N a) k).length + 1 ≤ maxLen) := by show _ ≤ _; have := lz_len (N a) k; unfold maxLen; omega
        have M3 : Hid (((Lz (N a) k).length + 1) * 8 ≤ 140737488355328) := by show _ ≤ _; have := lz_len (N a) k; omega
        have hG2 : GmE (wr.setCell ⟨ρ a, k, none⟩ (.int .u8 (el (tiE (N a k) iv)))) B r l ρ (fun i j => if i = a ∧ j < k + 1 then tiE (N a j) iv else N i j) := (hG.put ha hlt (tiE (N a k) iv) rfl).congr (fun i _ j _ => by
          by_cases e : i = a
          · rw [if_pos e]
            by_cases e2 : j = k
            · rw [if_pos e2, if_pos ⟨e, by omega⟩, e2]
            · rw [if_neg e2]
              by_cases e3 : j < k
              · rw [if_pos ⟨e, e3⟩, if_pos ⟨e, by omega⟩]
              · rw [if_neg (by omega), if_neg (by omega)]
          · rw [if_neg e, if_neg (fun x => e x.1), if_neg (fun x => e x.1)])
        have nB := owns_not hown (hG.ov ha) (by decide)
        have hown1 := owns_away hown ⟨ρ a, k, none⟩ (.int .u8 (el (tiE (N a k) iv))) nB
        have hb2 := hb.setCell (hρ.out a ha) (p := ⟨ρ a, k, none⟩) (.int .u8 (el (tiE (N a k) iv)))
        have HW : Hid (∀ o : Obj, w1.heap.size ≤ ((wr.setCell ⟨ρ a, k, none⟩ (.int .u8 (el (tiE (N a k) iv)))).alloc o).heap.size) := fun o => by have := hsz.out; simp; omega
        have HS2 : Hid (b0 ≤ (wr.setCell ⟨ρ a, k, none⟩ (.int .u8 (el (tiE (N a k) iv)))).heap.size) := by show _ ≤ _; have := hsz.out; simp; omega
        clear nB
        go_wp2_with (first
          | (refine (HZ.out _).mono ?_; rintro e w' ⟨rfl, h⟩; obtain rfl := h.symm)
          | (refine (timesE (N a k) iv _).mono ?_; rintro e w' ⟨rfl, h⟩; obtain rfl := h.symm)
          | (at_builtin; refine wpList_append_own _ rfl _ _ 24 rfl w1.heap.size 3 i0 (.int .i64 0) 1 8 Try.underlying24 hi hz0 hz1 hz2 rfl (by decide) _ _ _ rfl (hown1.alloc _) ⟨_, 0, none⟩ 1 1 [.int .i64 (k : Int)] rfl rfl (one_newb _ _ _ (size_set _ _ _)) (one_cellv rfl) M1.out M3.out (HW.out _) ?_; intro v' w3 hown' hgrow _))
        rw [pvs_app, ← lz_pos hz] at hown'
        have hlen : (Lz (N a) k).length + 1 = (Lz (N a) (k + 1)).length := by rw [lz_pos hz]; simp
        rw [hlen] at hown'
        have hG3 : GmE w3 B r l ρ (fun i j => if i = a ∧ j < k + 1 then tiE (N a j) iv else N i j) := (hG2.below ((Below.refl _ _).alloc (Nat.le_refl _) _)).grown (hown1.alloc _) hgrow
        have hb3 := below_append (hb2.alloc HS2.out _) (by have := HW.out; have := HS2.out; simp at *; omega) hgrow (hown1.alloc _) S1
        have hsz3 : Hid (w1.heap.size ≤ w3.heap.size) := by show _ ≤ _; have h1 := HW.out (.cells #[.int .i64 (k : Int)] 3); have h2 := hgrow.size; omega
        clear hown hgrow hG hG2 hown1 g3 g4
        go_roundw
        case rel => exact ⟨k + 1, by omega, by go_num, hown', hG3, hb3, hsz3⟩
        case measure => simp [intOf]; omega
    · obtain rfl : k = l := by omega
      have hq : 0 < (Lz (N a) k).length := List.length_pos_of_mem (lz_mem.2 ⟨hc, hne.out⟩)
      have hqk : (Lz (N a) k).length ≤ k := lz_len _ _
      obtain ⟨gp, cap, eu, hgb, hgl, hcp, hmx, cs, hcs⟩ := owns_some hown hq
      subst eu
      have HP : Hid (∀ u (hu : u < (Lz (N a) k).length), wr.cell? ⟨gp, u, none⟩ = some (.int .i64 ((Lz (N a) k)[u] : Nat))) := fun u hu => owns_read hown (pvs_at hu)
      have NG : Hid (∀ i, i < r → gp ≠ ρ i) := fun i hi e => owns_not hown (hG.ov hi) (by decide) (by rw [← e]; rfl)
      have HG1 : Hid (GmE wr B r k ρ (fun i j => if i < 0 then cl2 N a c iv i j else cl1 N a iv i j)) := hG.congr (fun i _ j hj => by
        rw [if_neg (Nat.not_lt_zero i)]
        unfold cl1
        by_cases e : i = a
        · rw [if_pos ⟨e, hj⟩, if_pos e]
        · rw [if_neg (fun x => e x.1), if_neg e])
      have HB1 := (show Hid _ from hb)
      have hcap : ((Lz (N a) k).length : Int) ≤ (cap : Int) := by omega
      clear hown hG hb hcs hsz
      obtain ⟨q, hqe⟩ : ∃ q, q = (Lz (N a) k).length := ⟨_, rfl⟩
      have HQ : Hid (q = (Lz (N a) k).length) := hqe
      rw [← hqe] at hq hqk hcap
      rw [← hqe]
      clear hqe
      go_wp2
      go_loopw [55] (fun i wz => ∃ t : Nat, t ≤ r ∧ i = .int .i64 t ∧ GmE wz B r k ρ (fun i j => if i < t then cl2 N a c iv i j else cl1 N a iv i j) ∧ Hid (∀ u (hu : u < (Lz (N a) k).length), wz.cell? ⟨gp, u, none⟩ = some (.int .i64 ((Lz (N a) k)[u] : Nat))) ∧ Below b0 w wz) (fun i _ => r - (intOf i).toNat)
      case atStart => exact ⟨0, Nat.zero_le _, rfl, HG1.out, HP, HB1.out⟩
      case round =>
        clear HG1 HB1 HP
        obtain ⟨t, ht, rfl, hG, HP, hb⟩ := hrel
        by_cases hltr : t < r
        · have j1 : (t : Int) < (r : Int) := by omega
          have g1 := hG.out hltr
          have g2 : wr.cell? ⟨ρ t, c, none⟩ = some (.int .u8 (el (cl1 N a iv t c))) := by
            have h := hG.cell hltr hc
            rw [if_neg (Nat.lt_irrefl t)] at h; exact h
          by_cases hta : t = a
          · subst hta
            have j2 : ((t : Int) == (t : Int)) = true := by simp
            have hG2 : GmE wr B r k ρ (fun i j => if i < t + 1 then cl2 N t c iv i j else cl1 N t iv i j) := hG.congr (fun i _ j _ => by
              by_cases e : i < t
              · rw [if_pos e, if_pos (by omega)]
              · rw [if_neg e]
                by_cases e2 : i = t
                · rw [if_pos (by omega), e2, cl_a N t c]
                · rw [if_neg (by omega)])
            go_wp2
            go_roundw
            case rel => exact ⟨t + 1, by omega, by go_num, hG2, HP, hb⟩
            case measure => simp [intOf]; omega
          · have j2 : ((t : Int) == (a : Int)) = false := by simp; omega
            rw [cl_ne hta] at g2
            have HZ := (show Hid _ from fun w => isZero_any (N t c) w)
            by_cases hz : N t c = 0#8
            · have ez : (N t c == 0#8) = true := by simpa using hz
              rw [ez] at HZ
              have hG2 : GmE wr B r k ρ (fun i j => if i < t + 1 then cl2 N a c iv i j else cl1 N a iv i j) := hG.congr (fun i _ j _ => by
                by_cases e : i < t
                · rw [if_pos e, if_pos (by omega)]
                · rw [if_neg e]
                  by_cases e2 : i = t
                  · rw [if_pos (by omega), e2, cl_ne hta, cl_zero hta hz]
                  · rw [if_neg (by omega)])
              clear hz ez
              go_wp2_with (refine (HZ.out _).mono ?_; rintro e w' ⟨rfl, h⟩; obtain rfl := h.symm)
              go_roundw
              case rel => exact ⟨t + 1, by omega, by go_num, hG2, HP, hb⟩
              case measure => simp [intOf]; omega
            · have ez : (N t c == 0#8) = false := by simpa using hz
              rw [ez] at HZ
              have HG2 : Hid (GmE wr B r k ρ (cl3 N a c iv (Lz (N a) k) t 0)) := hG.congr (fun i _ j _ => cl3_start hta i j)
              have HB2 := (show Hid _ from hb)
              clear hz ez hG hb
              go_wp2_with (refine (HZ.out _).mono ?_; rintro e w' ⟨rfl, h⟩; obtain rfl := h.symm)
              clear g1 g2
              go_loopw [74] (fun i wq => ∃ u : Nat, u ≤ q ∧ i = .int .i64 u ∧ GmE wq B r k ρ (cl3 N a c iv (Lz (N a) k) t u) ∧ Hid (∀ u (hu : u < (Lz (N a) k).length), wq.cell? ⟨gp, u, none⟩ = some (.int .i64 ((Lz (N a) k)[u] : Nat))) ∧ Below b0 w wq) (fun i _ => q - (intOf i).toNat)
              case atStart => exact ⟨0, Nat.zero_le _, rfl, HG2.out, HP, HB2.out⟩
              case round =>
                clear HG2 HB2 HP
                obtain ⟨u, hu, rfl, hG, HP, hb⟩ := hrel
                by_cases hltu : u < q
                · have j3 : (u : Int) < (q : Int) := by omega
                  have hu2 : u < (Lz (N a) k).length := by rw [← HQ.out]; exact hltu
                  obtain ⟨y, hy⟩ : ∃ y, y = (Lz (N a) k)[u] := ⟨_, rfl⟩
                  have g0 := HP.out u hu2
                  rw [← hy] at g0
                  have hyl : y < k := by rw [hy]; exact (lz_mem.1 (List.getElem_mem hu2)).1
                  have j4 : (y : Int) < (k : Int) := by omega
                  have g1 : wr.cell? ⟨ρ t, y, none⟩ = some (.int .u8 (el (N t y))) := by
                    have h := hG.cell hltr hyl
                    rw [cl3_row (by rw [hy]; exact lz_new hu2)] at h; exact h
                  have g2 := hG.frozen hltr y
                  have g3 : wr.cell? ⟨ρ a, y, none⟩ = some (.int .u8 (el (tiE (N a y) iv))) := by
                    have h := hG.cell ha hyl
                    rw [cl3_piv hta] at h; exact h
                  have hGp := hG.put hltr hyl (plE (N t y) (tiE (N t c) (tiE (N a y) iv))) rfl
                  have HG3 : Hid (GmE (wr.setCell ⟨ρ t, y, none⟩ (.int .u8 (el (plE (N t y) (tiE (N t c) (tiE (N a y) iv)))))) B r k ρ (cl3 N a c iv (Lz (N a) k) t (u + 1))) := hGp.congr (fun i _ j _ => by subst hy; exact cl3_put hu2 hta i j)
                  have HB3 := (show Hid _ from hb.setCell (hρ.out t hltr) (p := ⟨ρ t, y, none⟩) (.int .u8 (el (plE (N t y) (tiE (N t c) (tiE (N a y) iv))))))
                  have HP3 : Hid (∀ u (hu : u < (Lz (N a) k).length), (wr.setCell ⟨ρ t, y, none⟩ (.int .u8 (el (plE (N t y) (tiE (N t c) (tiE (N a y) iv)))))).cell? ⟨gp, u, none⟩ = some (.int .i64 ((Lz (N a) k)[u] : Nat))) := fun v hv => by
                    rw [World.cell?_setCell_far _ _ _ _ (fun e => NG.out t hltr e.symm)]; exact HP.out v hv
                  clear hy hGp hG hb HP
                  go_wp2
                  go_region_with (first
                    | (refine (timesE (N t c) (tiE (N a y) iv) _).mono ?_; rintro e w' ⟨rfl, h⟩; obtain rfl := h.symm)
                    | (refine (plusE (N t y) (tiE (N t c) (tiE (N a y) iv)) _).mono ?_; rintro e w' ⟨rfl, h⟩; obtain rfl := h.symm))
                  all_goals
                    go_wp2
                    exact ⟨⟨u + 1, by omega, by go_num, GmE.heap HG3.out rfl, fun v hv => HP3.out v hv, HB3.out.drew⟩, by simp [intOf]; omega⟩
                · obtain rfl : u = q := by omega
                  have hG2 : GmE wr B r k ρ (fun i j => if i < t + 1 then cl2 N a c iv i j else cl1 N a iv i j) := hG.congr (fun i _ j hj => by rw [HQ.out]; exact cl3_end hta i j hj)
                  go_wp2
                  exact ⟨⟨t + 1, by omega, by go_num, hG2, HP, hb⟩, by simp [intOf]; omega⟩
        · obtain rfl : t = r := by omega
          go_wp2
          (try simp only [Exit.inBlock, Exit.then])
          refine bodyPost_end (results_0 rfl _ _ _) rfl ?_
          exact ⟨rfl, hG.congr (fun i hi j _ => by rw [if_pos hi, ← HIV.out]), hb⟩
end
end Go.Proofs.Ytgokkppojhokbaa
