/-
  The document's row of Euclid ('Rows'), 'Partial'.
-/
import Derived.Test.YtbjmdijphciliaaRefE
import Derived.Test.YtbjmdijphciliaaPPar
namespace Go.Proofs.Ytbjmdijphciliaa
open Go.RowKit
theorem infoRow : (Try.prog.info? 47).map (fun i => (i.zero, i.size, i.bytes)) = some (some (.agg #[.slice none 0 0, .slice none 0 0, .slice none 0 0]), 3, 72) := by kernel_rfl
def c3 (x y z : Nat → Value) (i : Nat) : Value := if i % 3 = 0 then x (i / 3) else if i % 3 = 1 then y (i / 3) else z (i / 3)
def l3 (x y z : Nat → Value) (n : Nat) : List Value := (List.range (n * 3)).map (c3 x y z)
theorem l3_len (x y z : Nat → Value) (n : Nat) : (l3 x y z n).length = n * 3 := by simp [l3]
theorem l3_succ (x y z : Nat → Value) (n : Nat) : l3 x y z (n + 1) = l3 x y z n ++ [x n, y n, z n] := by
  unfold l3
  rw [show (n + 1) * 3 = n * 3 + 1 + 1 + 1 by omega, List.range_succ, List.range_succ, List.range_succ, List.map_append, List.map_append, List.map_append, List.append_assoc, List.append_assoc]
  congr 1
  simp only [List.map_cons, List.map_nil]
  unfold c3
  rw [if_pos (by omega), if_neg (by omega), if_pos (by omega), if_neg (by omega), if_neg (by omega), show n * 3 / 3 = n by omega, show (n * 3 + 1) / 3 = n by omega, show (n * 3 + 1 + 1) / 3 = n by omega]
  rfl
theorem l3_congr {x y z x' y' z' : Nat → Value} {n : Nat} (h : ∀ i, i < n → x i = x' i ∧ y i = y' i ∧ z i = z' i) : l3 x y z n = l3 x' y' z' n := by
  unfold l3
  apply List.map_congr_left
  intro i hi
  have hi' : i / 3 < n := by have := List.mem_range.1 hi; omega
  obtain ⟨h1, h2, h3⟩ := h _ hi'
  unfold c3; rw [h1, h2, h3]
/-- n rows of the call's own. -/
def R3 (w : World) (B : Nat) (v : Value) (n : Nat) (x y z : Nat → Value) : Prop := w.ownsRow B 47 3 v n (l3 x y z n)
theorem R3.own {w : World} {B : Nat} {v : Value} {n : Nat} {x y z : Nat → Value} (h : R3 w B v n x y z) : w.ownsRow B 47 3 v n (l3 x y z n) := h
theorem R3.cells {w : World} {B : Nat} {v : Value} {n : Nat} {x y z : Nat → Value} (h : R3 w B v n x y z) (hn : 0 < n) : ∃ g cap, v = .slice (some ⟨g, 0, none⟩) n cap ∧ n ≤ cap ∧ cap ≤ maxLen ∧ ∀ i, i < n → w.cell? ⟨g, i * 3, none⟩ = some (x i) ∧ w.cell? ⟨g, i * 3 + 1, none⟩ = some (y i) ∧ w.cell? ⟨g, i * 3 + 2, none⟩ = some (z i) := by
  rcases h.2 with ⟨hv, h0⟩ | ⟨g, cap, c, hv, hg, hh, hc, hm, hs, ht⟩
  · omega
  · refine ⟨g, cap, hv, hc, hm, fun i hi => ?_⟩
    have e : ∀ j, j < n * 3 → w.cell? ⟨g, j, none⟩ = some (c3 x y z j) := fun j hj => by
      rw [cell_of_row w g j _ _ _ hh]
      have h1 : (c.toList.take (n * 3))[j]? = some (c3 x y z j) := by
        rw [ht]; unfold l3; rw [List.getElem?_map, List.getElem?_range hj]; rfl
      rw [List.getElem?_take_of_lt hj] at h1
      simpa using h1
    refine ⟨?_, ?_, ?_⟩
    · rw [e _ (by omega)]; unfold c3; rw [if_pos (by omega), show i * 3 / 3 = i by omega]
    · rw [e _ (by omega)]; unfold c3; rw [if_neg (by omega), if_pos (by omega), show (i * 3 + 1) / 3 = i by omega]
    · rw [e _ (by omega)]; unfold c3; rw [if_neg (by omega), if_neg (by omega), show (i * 3 + 2) / 3 = i by omega]
theorem r3_two {V1 V2 : World} {B k : Nat} {a b c d e f : Value} (hs : V1.heap.size = k) (h : V2 = V1.alloc (.cells #[a, b, c, d, e, f] 47)) (hB : B ≤ k) : R3 V2 B (.slice (some ⟨k, 0, none⟩) 2 2) 2 (fun i => if i = 0 then a else d) (fun i => if i = 0 then b else e) (fun i => if i = 0 then c else f) := by
  subst hs h
  refine ⟨by rw [l3_len], .inr ⟨V1.heap.size, 2, _, rfl, hB, heap_alloc_new V1 _, by omega, by unfold maxLen; omega, rfl, rfl⟩⟩
/-- The length of the last row's list. -/
def gl3 (v : Value) (w : World) : Nat := match v with
  | .slice (some a) n _ => match w.cell? ⟨a.block, (n - 1) * 3, none⟩ with
    | some u => sll u
    | none => 0
  | _ => 0
theorem below_app {t : TypeId} {w w' : World} {base k n : Nat} {v : Value} {xs : List Value} {B : Nat} {a : World} (hb : Below B a w) (hB : B ≤ w.heap.size) (hg : w.grownBy w' v.ownBlock) (ho : w.ownsRow base t k v n xs) (hbase : B ≤ base) : Below B a w' :=
  hb.grown hg hB (fun k hk => Nat.le_trans hbase (ho.lt k hk).1)
theorem ba8 (w : World) (o : Obj) : Below w.heap.size w (w.alloc o) := (Below.refl _ _).alloc (Nat.le_refl _) o
theorem size_al {N : Nat} {w4 w8 : World} (h : N ≤ w4.heap.size) (hb : Below w4.heap.size w4 w8) (o : Obj) : N ≤ (w8.alloc o).heap.size := by have := hb.size; simp; omega
/-- What the row's terms are, and where they lie. -/
structure RowI (p q : List (BitVec 8)) (B : Nat) (w : World) (n : Nat) (tm : Nat → Tm) (x y z : Nat → Value) : Prop where
  t0 : tm 0 = ⟨trim p, [1#8], []⟩
  eu : ∀ i, i + 2 ≤ n → Eu p q i (tm i) (tm (i + 1))
  gx : ∀ i, i < n → Rs 5 B w (x i) (tm i).g
  gy : ∀ i, i < n → Rs 5 B w (y i) (tm i).u
  gz : ∀ i, i < n → Rs 5 B w (z i) (tm i).v
theorem RowI.below {p q : List (BitVec 8)} {B : Nat} {w w' : World} {n : Nat} {tm : Nat → Tm} {x y z : Nat → Value} (h : RowI p q B w n tm x y z) (hb : Below w.heap.size w w') : RowI p q B w' n tm x y z :=
  ⟨h.t0, h.eu, fun i hi => (h.gx i hi).below hb, fun i hi => (h.gy i hi).below hb, fun i hi => (h.gz i hi).below hb⟩
def Fr4 (A : Nat) (u1 v1 u2 v2 : Value) (W : World) : Prop := W.cell? ⟨A, 1, none⟩ = some u1 ∧ W.cell? ⟨A, 2, none⟩ = some v1 ∧ W.cell? ⟨A + 1, 1, none⟩ = some u2 ∧ W.cell? ⟨A + 1, 2, none⟩ = some v2
theorem Fr4.below {A : Nat} {u1 v1 u2 v2 : Value} {w w' : World} (h : Fr4 A u1 v1 u2 v2 w) (hb : Below w.heap.size w w') : Fr4 A u1 v1 u2 v2 w' :=
  ⟨cell_below h.1 hb, cell_below h.2.1 hb, cell_below h.2.2.1 hb, cell_below h.2.2.2 hb⟩
theorem Fr4.grown {A g n cap : Nat} {u1 v1 u2 v2 : Value} {w w' : World} (h : Fr4 A u1 v1 u2 v2 w) (hg : w.grownBy w' (Value.slice (some ⟨g, 0, none⟩) n cap).ownBlock) (hA : g < A) : Fr4 A u1 v1 u2 v2 w' := by
  have e : ∀ k, k = A ∨ k = A + 1 → some k ≠ (Value.slice (some ⟨g, 0, none⟩) n cap).ownBlock := fun k hk h => by
    have h2 : some k = some g := h
    injection h2 with h2
    omega
  exact ⟨hg.cell h.1 (e _ (.inl rfl)), hg.cell h.2.1 (e _ (.inl rfl)), hg.cell h.2.2.1 (e _ (.inr rfl)), hg.cell h.2.2.2 (e _ (.inr rfl))⟩
theorem three_new (w : World) (a b c : Value) (t : TypeId) : ∀ j u, ([a, b, c] : List Value)[j]? = some u → (w.alloc (.cells #[a, b, c] t)).cell? ((⟨w.heap.size, 0, none⟩ : Addr).add j) = some u := by
  intro j u hj
  rw [add_pl, cell_of_row _ _ _ _ _ (0, 0) (heap_alloc_new w _), Nat.zero_add]
  simpa using hj
theorem three_one (p1 p2 p3 : Option Addr) (n1 n2 n3 c1 c2 c3 : Nat) : ∀ u ∈ ([.slice p1 n1 c1, .slice p2 n2 c2, .slice p3 n3 c3] : List Value), u.oneCell' = true := by
  intro u hu; simp at hu; rcases hu with rfl | rfl | rfl <;> rfl
theorem Rs.grown {t t' : TypeId} {B B' k n : Nat} {w w' : World} {v u : Value} {us : List Value} {xs : List (BitVec 8)} (h : Rs t B w v xs) (ho : w.ownsRow B' t' k u n us) (hg : w.grownBy w' u.ownBlock) (ht : t ≠ t') : Rs t B w' v xs := by
  refine ⟨h.1, ?_⟩
  rcases h.2 with h1 | ⟨g, cap, cur, hv, hg1, hh, hr⟩
  · exact .inl h1
  · refine .inr ⟨g, cap, cur, hv, hg1, ?_, hr⟩
    rw [hg.block g (lt_of_block hh) ?_]
    · exact hh
    · intro hb
      rcases ho.2 with ⟨hv2, _⟩ | ⟨g2, cap2, cur2, hv2, _, hh2, _⟩
      · rw [hv2] at hb; cases hb
      · rw [hv2] at hb
        injection hb with hb
        subst hb
        rw [hh2] at hh
        injection hh with hh
        injection hh with _ hh _
        exact ht hh.symm
theorem gl3_eq {w : World} {B : Nat} {v : Value} {n : Nat} {x y z : Nat → Value} (h : R3 w B v n x y z) (hn : 0 < n) : gl3 v w = sll (x (n - 1)) := by
  obtain ⟨g, cap, rfl, _, _, hc⟩ := h.cells hn
  unfold gl3
  show (match w.cell? ⟨g, (n - 1) * 3, none⟩ with | some u => sll u | none => 0) = _
  rw [(hc (n - 1) (by omega)).1]
theorem row_step {p q : List (BitVec 8)} {N n : Nat} {wr w8 w9 : World} {u v' vx vy vz : Value} {tm : Nat → Tm} {x y z : Nat → Value} {a c : Tm} {s r : List (BitVec 8)} {o : Obj} (hR : R3 wr N u n x y z) (I : RowI p q N wr n tm x y z) (hn : 2 ≤ n) (ha : tm (n - 2) = a) (hc : tm (n - 1) = c) (hg : c.g ≠ []) (hd : IsDiv a.g c.g s r) (b8 : Below wr.heap.size wr w8)
    (hx : Rs 5 N w8 vx (a.next c s r).g) (hy : Rs 5 N w8 vy (a.next c s r).u) (hz : Rs 5 N w8 vz (a.next c s r).v) (hown' : w9.ownsRow N 47 3 v' (n + 1) (l3 x y z n ++ [vx, vy, vz])) (hgrow : (w8.alloc o).grownBy w9 u.ownBlock) :
    ∃ tm' x' y' z', R3 w9 N v' (n + 1) x' y' z' ∧ RowI p q N w9 (n + 1) tm' x' y' z' ∧ tm' n = a.next c s r ∧ gl3 v' w9 = r.length := by
  have ho8 : (w8.alloc o).ownsRow N 47 3 u n (l3 x y z n) := (owns_below hR b8).alloc _
  have ba8 := (Below.refl w8.heap.size w8).alloc (Nat.le_refl _) o
  have old : ∀ {v : Value} {xs : List (BitVec 8)}, Rs 5 N w8 v xs → Rs 5 N w9 v xs := fun h => (h.below ba8).grown ho8 hgrow (by decide)
  have R9 : R3 w9 N v' (n + 1) (fun i => if i = n then vx else x i) (fun i => if i = n then vy else y i) (fun i => if i = n then vz else z i) := by
    unfold R3
    rw [l3_succ, if_pos rfl, if_pos rfl, if_pos rfl, l3_congr (x' := x) (y' := y) (z' := z) (fun i hi => by rw [if_neg (by omega), if_neg (by omega), if_neg (by omega)]; exact ⟨rfl, rfl, rfl⟩)]
    exact hown'
  refine ⟨fun i => if i = n then a.next c s r else tm i, _, _, _, R9, ⟨?_, fun i hi => ?_, fun i hi => ?_, fun i hi => ?_, fun i hi => ?_⟩, if_pos rfl, ?_⟩
  · rw [if_neg (by omega)]; exact I.t0
  · by_cases e : i + 2 ≤ n
    · rw [if_neg (by omega), if_neg (by omega)]; exact I.eu i e
    · obtain rfl : i = n - 1 := by omega
      rw [if_neg (by omega), if_pos (by omega), hc]
      have h1 := I.eu (n - 2) (by omega)
      rw [show n - 2 + 1 = n - 1 by omega, ha, hc] at h1
      have h2 := Eu.succ h1 hg hd
      rw [show n - 2 + 1 = n - 1 by omega] at h2
      exact h2
  · by_cases e : i = n
    · simp only [if_pos e]; exact old hx
    · simp only [if_neg e]; exact old ((I.gx i (by omega)).below b8)
  · by_cases e : i = n
    · simp only [if_pos e]; exact old hy
    · simp only [if_neg e]; exact old ((I.gy i (by omega)).below b8)
  · by_cases e : i = n
    · simp only [if_pos e]; exact old hz
    · simp only [if_neg e]; exact old ((I.gz i (by omega)).below b8)
  · rw [gl3_eq R9 (by omega)]
    show sll (if n + 1 - 1 = n then vx else x (n + 1 - 1)) = _
    rw [if_pos (by omega)]
    exact sll_rs hx
section
attribute [local irreducible] Calls el gm trim co Rs Sl mul add R3
set_option maxHeartbeats 8000000 in
set_option maxRecDepth 1000000 in
theorem refRows_any {w : World} {v1 v2 : Value} {p q : List (BitVec 8)} (h1 : Sr w v1 p) (h2 : Sr w v2 q) (m1 : Hid (p.length ≤ 1048576)) (m2 : Hid (q.length ≤ 1048576)) :
    Calls Try.prog 21 #[v1, v2] w fun e w' => ∃ v n tm x y z, e = .returned v ∧ 2 ≤ n ∧ R3 w' w.heap.size v n x y z ∧ RowI p q w.heap.size w' n tm x y z ∧ (tm (n - 1)).g = [] ∧ n ≤ 2000000 ∧ Below w.heap.size w w' := by
  obtain ⟨p1, c1, rfl, r1⟩ := h1
  obtain ⟨p2, c2, rfl, r2⟩ := h2
  obtain ⟨i0, hif, hz0, hz1, hz2⟩ := info_parts infoRow
  have T1 := (show Hid _ from refTrim_any r1 _ c1 rfl (by have := m1.out; omega))
  go_enter Try.func21, Try.ntmps21
  go_wp2_with (first
    | (go_at_call 39; refine T1.out.mono ?_; rintro e w1 ⟨x1, rfl, hX1, hb1⟩; obtain ⟨q1, d1, e1⟩ := hX1.form; subst e1; have B1 := bt hb1 ((Below.refl w1.heap.size w1).alloc (Nat.le_refl _) (.cells #[.int .u8 1] 5)); have r21 := r2.below B1)
    | (go_at_call 39; refine (refTrim_any r21 _ c2 rfl (by have := m2.out; omega)).mono ?_; rintro e w2 ⟨x2, rfl, hX2, hb2⟩; obtain ⟨q2, d2, e2⟩ := hX2.form; subst e2))
  have N1 := hb1.size
  have N2 := hb2.size
  have N3 : w.heap.size ≤ w2.heap.size := by simp at N2; omega
  have q1s : (w1.alloc (.cells #[.int .u8 1] 5)).heap.size = w1.heap.size + 1 := by simp
  have o1 := (one_rs 5 w1 N1).below hb2
  have o2 := one_rs 5 w2 N3
  obtain ⟨V1, hV1⟩ : ∃ V1, V1 = w2.alloc (.cells #[.int .u8 1] 5) := ⟨_, rfl⟩
  have bv1 : Below w2.heap.size w2 V1 := by rw [hV1]; exact (Below.refl _ _).alloc (Nat.le_refl _) _
  have sv1 : V1.heap.size = w2.heap.size + 1 := by rw [hV1]; simp
  rw [← hV1] at o2
  obtain ⟨V2, hV2⟩ : ∃ V2, V2 = V1.alloc (.cells #[.slice q1 (trim p).length d1, .slice (some ⟨w1.heap.size, 0, none⟩) 1 1, .slice none 0 0, .slice q2 (trim q).length d2, .slice none 0 0, .slice (some ⟨w2.heap.size, 0, none⟩) 1 1] 47) := ⟨_, rfl⟩
  have bv2 : Below V1.heap.size V1 V2 := by rw [hV2]; exact (Below.refl _ _).alloc (Nat.le_refl _) _
  have E2 : Hid (V2 = (w2.alloc (.cells #[.int .u8 1] 5)).alloc (.cells #[.slice q1 (trim p).length d1, .slice (some ⟨w1.heap.size, 0, none⟩) 1 1, .slice none 0 0, .slice q2 (trim q).length d2, .slice none 0 0, .slice (some ⟨w2.heap.size, 0, none⟩) 1 1] 47)) := by show _ = _; rw [hV2, hV1]
  have R0 : R3 V2 w.heap.size (.slice (some ⟨w2.heap.size + 1, 0, none⟩) 2 2) 2 (fun i => if i = 0 then .slice q1 (trim p).length d1 else .slice q2 (trim q).length d2) (fun i => if i = 0 then .slice (some ⟨w1.heap.size, 0, none⟩) 1 1 else .slice none 0 0) (fun i => if i = 0 then .slice none 0 0 else .slice (some ⟨w2.heap.size, 0, none⟩) 1 1) := r3_two sv1 hV2 (by omega)
  have I0 : RowI p q w.heap.size V2 2 (fun i => if i = 0 then ⟨trim p, [1#8], []⟩ else ⟨trim q, [], [1#8]⟩) (fun i => if i = 0 then .slice q1 (trim p).length d1 else .slice q2 (trim q).length d2) (fun i => if i = 0 then .slice (some ⟨w1.heap.size, 0, none⟩) 1 1 else .slice none 0 0) (fun i => if i = 0 then .slice none 0 0 else .slice (some ⟨w2.heap.size, 0, none⟩) 1 1) := by
    have b12 := bt bv1 bv2
    refine ⟨rfl, fun i hi => ?_, fun i hi => ?_, fun i hi => ?_, fun i hi => ?_⟩
    · obtain rfl : i = 0 := by omega
      exact Eu.zero
    · have h : i = 0 ∨ i = 1 := by omega
      rcases h with rfl | rfl
      · exact ((hX1.below ((Below.refl _ _).alloc (Nat.le_refl _) _)).below hb2).below b12
      · exact (hX2.below b12).mono (by omega)
    · have h : i = 0 ∨ i = 1 := by omega
      rcases h with rfl | rfl
      · exact o1.below b12
      · exact Rs.nil _ _ _
    · have h : i = 0 ∨ i = 1 := by omega
      rcases h with rfl | rfl
      · exact Rs.nil _ _ _
      · exact o2.below bv2
  have HI0 := (show Hid _ from I0)
  have HB0 := (show Hid _ from bt (bt (bt B1 hb2) bv1) bv2)
  rw [← E2.out]
  clear I0 E2 o1 o2 hX1 hX2 hb1 hb2 B1 r21 r2 r1 bv1 bv2 sv1 hV1 hV2 N1 N2 q1s T1
  go_loopw [5] (fun v wr => ∃ n tm x y z, 2 ≤ n ∧ R3 wr w.heap.size v n x y z ∧ Hid (RowI p q w.heap.size wr n tm x y z) ∧ Hid (n + (tm (n - 1)).g.length ≤ (trim q).length + 2) ∧ Below w.heap.size w wr) (fun v wr => gl3 v wr)
  case atStart => exact ⟨2, _, _, _, _, Nat.le_refl _, R0, HI0, (by show 2 + (trim q).length ≤ _; omega), HB0.out⟩
  case round =>
    clear R0 HI0 HB0
    obtain ⟨n, tm, x, y, z, hn, hR, I, HQ, hb⟩ := hrel
    obtain ⟨g, cap, hv, hcap, hmx, hc⟩ := hR.cells (by omega)
    subst hv
    have hnm : n ≤ 1048578 := by have := HQ.out; have := m2.out; have := trim_len q; omega
    obtain ⟨b1, b2, b3⟩ := hc (n - 1) (by omega)
    have i1 : (0 : Int) ≤ (n : Int) - 1 := by omega
    have i2 : (n : Int) - 1 < (n : Int) := by omega
    obtain ⟨pl, cl, el'⟩ := (I.out.gx (n - 1) (by omega)).form
    rw [el'] at b1
    by_cases hg : (tm (n - 1)).g = []
    · have h0 : (tm (n - 1)).g.length = 0 := by rw [hg]; rfl
      rw [h0] at b1
      go_wp2
      go_ret
      exact ⟨_, n, tm, x, y, z, rfl, hn, hR, I.out, hg, by omega, hb⟩
    · have hgp : 0 < (tm (n - 1)).g.length := List.length_pos_iff.2 hg
      obtain ⟨G, hG⟩ : ∃ G, (tm (n - 1)).g.length = G := ⟨_, rfl⟩
      rw [hG] at b1 hgp
      have i5 : 0 < (G : Int) := by omega
      obtain ⟨a1, a2, a3⟩ := hc (n - 2) (by omega)
      have i3 : (0 : Int) ≤ (n : Int) - 2 := by omega
      have i4 : (n : Int) - 2 < (n : Int) := by omega
      obtain ⟨xa, ka, ea⟩ := (I.out.gx (n - 2) (by omega)).form
      obtain ⟨ya, la, eb⟩ := (I.out.gy (n - 2) (by omega)).form
      obtain ⟨za, na, ec⟩ := (I.out.gz (n - 2) (by omega)).form
      obtain ⟨yb, lb, ed⟩ := (I.out.gy (n - 1) (by omega)).form
      obtain ⟨zb, nb', ee⟩ := (I.out.gz (n - 1) (by omega)).form
      obtain ⟨a, ha⟩ : ∃ a, tm (n - 2) = a := ⟨_, rfl⟩
      obtain ⟨c, hcc⟩ : ∃ c, tm (n - 1) = c := ⟨_, rfl⟩
      have heu := I.out.eu (n - 2) (by omega)
      rw [show n - 2 + 1 = n - 1 by omega, ha, hcc] at heu
      have rxa := I.out.gx (n - 2) (by omega)
      have rya := I.out.gy (n - 2) (by omega)
      have rza := I.out.gz (n - 2) (by omega)
      have rxb := I.out.gx (n - 1) (by omega)
      have ryb := I.out.gy (n - 1) (by omega)
      have rzb := I.out.gz (n - 1) (by omega)
      rw [ha] at ea eb ec rxa rya rza
      rw [hcc] at hG hg ed ee rxb ryb rzb el'
      rw [ea] at a1 rxa
      rw [eb] at a2 rya
      rw [ec] at a3 rza
      rw [ed] at b2 ryb
      rw [ee] at b3 rzb
      rw [el'] at rxb
      rw [hG] at rxb
      obtain ⟨A, hA⟩ : ∃ A, wr.heap.size = A := ⟨_, rfl⟩
      obtain ⟨V3, hV3⟩ : ∃ V3, V3 = wr.alloc (.cells #[.slice xa a.g.length ka, .slice ya a.u.length la, .slice za a.v.length na] 47) := ⟨_, rfl⟩
      obtain ⟨V4, hV4⟩ : ∃ V4, V4 = V3.alloc (.cells #[.slice pl G cl, .slice yb c.u.length lb, .slice zb c.v.length nb'] 47) := ⟨_, rfl⟩
      have s3 : V3.heap.size = A + 1 := by rw [hV3]; simp [hA]
      have bb3 : Below wr.heap.size wr V3 := by rw [hV3]; exact (Below.refl _ _).alloc (Nat.le_refl _) _
      have bb4 : Below V3.heap.size V3 V4 := by rw [hV4]; exact (Below.refl _ _).alloc (Nat.le_refl _) _
      have E4 : Hid (V4 = (wr.alloc (.cells #[.slice xa a.g.length ka, .slice ya a.u.length la, .slice za a.v.length na] 47)).alloc (.cells #[.slice pl G cl, .slice yb c.u.length lb, .slice zb c.v.length nb'] 47)) := by show _ = _; rw [hV4, hV3]
      have k0 : V3.cell? ⟨A, 0, none⟩ = some (.slice xa a.g.length ka) := by rw [hV3, ← hA]; exact tcell wr _ _ 0 _ rfl
      have k1 : V3.cell? ⟨A, 1, none⟩ = some (.slice ya a.u.length la) := by rw [hV3, ← hA]; exact tcell wr _ _ 1 _ rfl
      have k2 : V3.cell? ⟨A, 2, none⟩ = some (.slice za a.v.length na) := by rw [hV3, ← hA]; exact tcell wr _ _ 2 _ rfl
      have k4 : V4.cell? ⟨A + 1, 1, none⟩ = some (.slice yb c.u.length lb) := by rw [hV4, ← s3]; exact tcell V3 _ _ 1 _ rfl
      have k5 : V4.cell? ⟨A + 1, 2, none⟩ = some (.slice zb c.v.length nb') := by rw [hV4, ← s3]; exact tcell V3 _ _ 2 _ rfl
      have b34 := bt bb3 bb4
      have inv := heu.inv
      have mm1 := m1.out
      have mm2 := m2.out
      have tp := trim_len p
      have tq := trim_len q
      have z0 : trim c.g ≠ [] := by rw [inv.gb]; exact hg
      have DV := (show Hid _ from refDivide_any ((rxa.below b34).sr) ((rxb.below b34).sr) (by have := inv.la; omega) (by have := inv.lb; omega) z0)
      rw [E4.out] at DV
      have L1 : Hid (∀ s r, IsDiv a.g c.g s r → s.length + c.u.length ≤ 4000000 ∧ s.length + c.v.length ≤ 4000000) := fun s r hd => by have := inv.sums hd; omega
      have L2 : Hid (a.u.length ≤ 4000000 ∧ a.v.length ≤ 4000000) := by have := inv.ulen; exact ⟨by omega, by omega⟩
      have a1' := cell_below a1 bb3
      have b1' := cell_below b1 bb3
      have b2' := cell_below b2 bb3
      have b3' := cell_below b3 bb3
      rw [hV3] at b1' b2' b3'

      go_wp2_with (go_at_call 40; refine DV.out.mono ?_; rintro e w4 ⟨s, r, vs', vr, rfl, hd, hS, hRr, hb4⟩)
      rw [← E4.out] at hS hRr hb4
      obtain ⟨pr, cr, er⟩ := hRr.form
      subst er
      have bw4 := bt b34 hb4
      have F4 : Fr4 A (.slice ya a.u.length la) (.slice za a.v.length na) (.slice yb c.u.length lb) (.slice zb c.v.length nb') w4 := Fr4.below ⟨cell_below k1 bb4, cell_below k2 bb4, k4, k5⟩ hb4
      have KH := (show Hid _ from F4)
      obtain ⟨f1, f2, f3, f4⟩ := F4
      have hl := L1.out s r hd
      have hl2 := L2.out
      have HS4 : Hid (Sr w4 vs' s) := hS.sr
      have HYA : Hid (Sr w4 (.slice ya a.u.length la) a.u) := (rya.below bw4).sr
      have HZA : Hid (Sr w4 (.slice za a.v.length na) a.v) := (rza.below bw4).sr
      have HYB : Hid (Sr w4 (.slice yb c.u.length lb) c.u) := (ryb.below bw4).sr
      have HZB : Hid (Sr w4 (.slice zb c.v.length nb') c.v) := (rzb.below bw4).sr
      have HRR := (show Hid _ from hRr)
      have t1 : Hid (s.length + c.u.length ≤ 140737488355328) := by show _ ≤ _; omega
      have t2 : Hid (s.length + c.v.length ≤ 140737488355328) := by show _ ≤ _; omega
      have t3 : Hid ((trim (mul s c.u)).length ≤ 140737488355328) := by show _ ≤ _; rcases mul_len_le (s := s) (u := c.u) with h | h <;> omega
      have t4 : Hid ((trim (mul s c.v)).length ≤ 140737488355328) := by show _ ≤ _; rcases mul_len_le (s := s) (u := c.v) with h | h <;> omega
      have t5 : Hid (a.u.length ≤ 140737488355328) := by show _ ≤ _; omega
      have t6 : Hid (a.v.length ≤ 140737488355328) := by show _ ≤ _; omega
      have M9 : Hid ((n + 1) * 72 ≤ 140737488355328) := by show _ ≤ _; omega
      have hgA : g < A := by have := block_lt_of_cell b1; rw [hA] at this; exact this
      have M1 : Hid (n + 1 ≤ maxLen) := by show _ ≤ _; unfold maxLen; omega
      have HRW : Hid (R3 wr w.heap.size (.slice (some ⟨g, 0, none⟩) n cap) n x y z) := hR
      have DD : Hid (IsDiv a.g c.g s r) := hd
      have HBW := (show Hid _ from hb)
      have VSZ : Hid (w.heap.size ≤ V4.heap.size) := by show _ ≤ _; have h1 := hb.size; have h2 := b34.size; omega
      have HB4 := (show Hid _ from bw4)
      have SZ : Hid (w.heap.size ≤ w4.heap.size) := by show _ ≤ _; have h1 := hb.size; have h2 := bw4.size; omega
      clear rxa rya rza rxb ryb rzb k0 k1 k2 k4 k5 a1 a2 a3 b1 b2 b3 a1' b1' b2' b3' hS hRr hb4 hR hb bw4 b34 bb3 bb4 DV hd hl hl2 inv
      go_region_held3 (fun W => W.cell? ⟨A, 1, none⟩ = some (.slice ya a.u.length la) ∧ W.cell? ⟨A, 2, none⟩ = some (.slice za a.v.length na) ∧ W.cell? ⟨A + 1, 1, none⟩ = some (.slice yb c.u.length lb) ∧ W.cell? ⟨A + 1, 2, none⟩ = some (.slice zb c.v.length nb')) (first | exact KH9.out | exact KH8.out | exact KH7.out | exact KH6.out | exact KH5.out | go_keep)
        (first
        | (go_at_call 42; refine (refTimes_any (Sr.below HS4.out ((Below.refl _ _).drew)) (Sr.below HYB.out ((Below.refl _ _).drew)) t1.out).mono ?_; rintro e w5 ⟨x5, rfl, hX5, hb5⟩; have B5 := bt ((Below.refl w4.heap.size w4).drew) hb5; have KH5 := (show Hid _ from Fr4.below KH.out B5))
        | (go_at_call 41; refine (refPlus_any (Sr.below HYA.out B5) hX5.sr t5.out t3.out).mono ?_; rintro e w6 ⟨x6, rfl, hX6, hb6⟩; obtain ⟨p6, c6, e6⟩ := hX6.form; subst e6; have B6 := bt B5 hb6; have KH6 := (show Hid _ from Fr4.below KH.out B6))
        | (go_at_call 42; refine (refTimes_any (Sr.below HS4.out B6) (Sr.below HZB.out B6) t2.out).mono ?_; rintro e w7 ⟨x7, rfl, hX7, hb7⟩; have B7 := bt B6 hb7; have KH7 := (show Hid _ from Fr4.below KH.out B7))
        | (go_at_call 41; refine (refPlus_any (Sr.below HZA.out B7) hX7.sr t6.out t4.out).mono ?_; rintro e w8 ⟨x8, rfl, hX8, hb8⟩; obtain ⟨p8, c8, e8⟩ := hX8.form; subst e8; have B8 := bt B7 hb8; have KH8 := (show Hid _ from Fr4.below KH.out B8); have HO8 := (show Hid _ from owns_below (R3.own HRW.out) (bt HB4.out B8)); have M8 : Hid (∀ o : Obj, w.heap.size ≤ (w8.alloc o).heap.size) := (fun o => size_al SZ.out B8 o))
        | (revert KH8; intro KH8; refine step_append_own rfl _ _ 44 rfl w.heap.size 47 i0 (.agg #[.slice none 0 0, .slice none 0 0, .slice none 0 0]) 3 72 Try.underlying44 hif hz0 hz1 hz2 rfl (by decide) _ n _ rfl (World.ownsRow.alloc HO8.out _) ⟨_, 0, none⟩ 1 1 [.slice pr r.length cr, .slice p6 (trim (add a.u (trim (mul s c.u)))).length c6, .slice p8 (trim (add a.v (trim (mul s c.v)))).length c8] rfl rfl (three_new _ _ _ _ _) (three_one _ _ _ _ _ _ _ _ _) M1.out M9.out (M8.out _) ?_; intro v' w9 hown' hgrow; have KH9 := (show Hid _ from Fr4.grown (Fr4.below KH8.out (ba8 w8 _)) hgrow hgA)))
      all_goals
        have nsz := SZ.out
        have b8 := bt HB4.out B8
        have v4s : w.heap.size ≤ V4.heap.size := VSZ.out
        have x8 := Rs.mono (HRR.out.below B8) v4s
        have y8 := Rs.mono (hX6.below (bt hb7 hb8)) (show w.heap.size ≤ w5.heap.size from Nat.le_trans nsz B5.size)
        have z8 := Rs.mono hX8 (show w.heap.size ≤ w7.heap.size from Nat.le_trans nsz B7.size)
        obtain ⟨tm', x', y', z', R9, I9, e9, m9⟩ := row_step HRW.out I.out hn ha hcc hg DD.out b8 x8 y8 z8 hown' hgrow
        have HR9 := (show Hid _ from R9)
        have HI9 := (show Hid _ from I9)
        have lt9 := DD.out.lt
        rw [heu.inv.gb] at lt9
        have HQ9 : Hid ((n + 1) + (tm' (n + 1 - 1)).g.length ≤ (trim q).length + 2) := by
          show _ ≤ _
          rw [Nat.add_sub_cancel, e9]
          have := HQ.out
          rw [hcc] at this
          show n + 1 + r.length ≤ _
          omega
        have HM9 : Hid (gl3 v' w9 < gl3 (.slice (some ⟨g, 0, none⟩) n cap) wr) := by
          show _ < _
          rw [m9, gl3_eq HRW.out (by omega), sll_rs (I.out.gx (n - 1) (by omega)), hcc]
          exact lt9
        have hb9 : Below w.heap.size w w9 := by
          have h1 := bt HBW.out b8
          have h2 := h1.alloc (by have := B8.size; omega) (.cells #[.slice pr r.length cr, .slice p6 (trim (add a.u (trim (mul s c.u)))).length c6, .slice p8 (trim (add a.v (trim (mul s c.v)))).length c8] 47)
          exact below_app h2 (by have := B8.size; simp; omega) hgrow (World.ownsRow.alloc HO8.out _) (Nat.le_refl _)
        clear R9 I9 e9 m9 lt9 hgrow hown' x8 y8 z8
        go_wp2
        go_roundw
        case rel => exact ⟨n + 1, tm', x', y', z', by omega, HR9.out, HI9, HQ9, hb9⟩
        case measure => exact HM9.out
end
end Go.Proofs.Ytbjmdijphciliaa
