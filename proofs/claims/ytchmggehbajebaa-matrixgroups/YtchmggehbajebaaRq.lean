/-
  The document's 'Product'.
-/
import Derived.Test.YtchmggehbajebaaSk
import Derived.Deep.RegionHeld3
namespace Go.Proofs.Ytchmggehbajebaa
open Go.RowKit
theorem ir_zero {w : World} {base : Nat} {t : TypeId} {v : Value} {xs : List Value} {f : Nat → Int} (h : w.ownsRow base t 1 v 0 xs) : Ir w v 0 f := by
  rcases h.2 with ⟨hv, _⟩ | ⟨g, cap, c, hv, _⟩
  · exact ⟨_, _, hv, .inl rfl⟩
  · exact ⟨_, _, hv, .inl rfl⟩
theorem own_ir' {w : World} {base n : Nat} {v : Value} {f : Nat → Int} (h : w.ownsRow base 3 1 v n (lv (fun j => .int .i64 (f j)) n)) : Ir w v n f := owns_st1 h
theorem Jr.at {w : World} {v : Value} {n : Nat} {f : Nat → Int} (h : Jr w v n f) (h0 : 0 < n) : ∃ b o c, v = .slice (some ⟨b, o, none⟩) n c ∧ ∀ i, i < n → w.cell? ⟨b, o + i, none⟩ = some (.int .i64 (f i)) := Sv.cells h h0
theorem Jm.at {w : World} {v : Value} {r : Nat} {l : Nat → Nat} {M : Nat → Nat → Int} (h : Jm w v r l M) (h0 : 0 < r) : ∃ (b o c : Nat) (rows : Nat → Value), v = .slice (some ⟨b, o, none⟩) r c ∧ (∀ i, i < r → w.cell? ⟨b, o + i, none⟩ = some (rows i)) ∧ ∀ i, i < r → Jr w (rows i) (l i) (M i) := by
  obtain ⟨rows, h1, h2⟩ := h
  obtain ⟨b, o, c, e, hc⟩ := h1.cells h0
  exact ⟨b, o, c, rows, e, hc, h2⟩
theorem takeH {P : Program} {ops : Array Oper} {Q : Exit → Act → World → Prop} {md : Region.Mode} {S : World → Prop} {i : Nat} {oi : Oper} {d : Option Tmp} {v : Value} {fuel : Nat} {listed : Array Bool} {a : Act} {w : World} (hi : ops[i]? = some oi) (hd : oi.dst = d)
    (hs : Region.noSelect ops = true) (hf : Region.free md ops listed i = true) (hr : (Region.ready md ops listed).contains i = true)
    (hQ : ∀ c a w, Q (.panic c) (a.put oi.dst v) w → Q (.panic c) a w) (hy : YieldsIf P ops S oi v a) (hS : S w)
    (h : wpAnyH P md ops Q S fuel (listed.setIfInBounds i true) (a.put d v) w) : wpAnyH P md ops Q S (fuel + 1) listed a w := by
  subst hd; exact wpAnyH_take hi hs hf hr hQ hy hS h
section
attribute [local irreducible] Calls lv Ir Jr skk fc cw
set_option maxHeartbeats 8000000 in
set_option maxRecDepth 1000000 in
theorem refProduct_core {K : Type} (nu : K → Int) (pl ti : K → K → K) (oz : K) (s : Int) (HM : Hid (∀ x y (w : World), Calls Try.prog 53 #[.int .i64 s, .int .i64 (nu x), .int .i64 (nu y)] w fun e w' => e = .returned (.int .i64 (nu (ti x y))) ∧ w' = w))
    (HX : Hid (∀ x y, bits .xor .i64 (nu x) (nu y) = nu (pl x y))) (HO : Hid (nu oz = 0))
    (b1 o1 c1 r1 r2 m : Nat) (v2 : Value) (rows1 : Nat → Value) (l1 l2 : Nat → Nat) (P Q : Nat → Nat → K) (w : World) (h0 : 0 < r1)
    (H1 : Hid (∀ i, i < r1 → w.cell? ⟨b1, o1 + i, none⟩ = some (rows1 i))) (R1 : Hid (∀ i, i < r1 → Jr w (rows1 i) (l1 i) (fun j => nu (P i j)))) (J2 : Hid (Jm w v2 r2 l2 (fun i j => nu (Q i j))))
    (LA : Hid (Lm w (.slice (some ⟨b1, o1, none⟩) r1 c1) r1 l1)) (LB : Hid (Lm w v2 r2 l2)) (f1 : Hid (fc r1 l1 = 0)) (f2 : Hid (fc r2 l2 = 0)) (fm : Hid (cw r1 l1 = r2)) (hm : Hid (cw r2 l2 = m)) :
    Calls Try.prog 11 #[.int .i64 s, .slice (some ⟨b1, o1, none⟩) r1 c1, v2] w fun e w' => ∃ v, e = .returned (.tuple #[v, .int .i64 0]) ∧ Im w' v r1 (fun _ => m) (fun i j => nu (skk pl oz (fun t => ti (P i t) (Q t j)) r2)) ∧ Below w.heap.size w w' := by
  obtain ⟨p2, c2, e2⟩ := (show ∃ p c, v2 = .slice p r2 c from by obtain ⟨rows, h, _⟩ := J2.out; exact h.form)
  subst e2
  have F1 := (show Hid _ from refFault_any LA.out)
  rw [f1.out] at F1
  go_enter Try.func11, Try.ntmps11
  go_wp2_with (first
    | (go_at_call 50; refine F1.out.mono ?_; rintro e w1 ⟨rfl, hb1⟩; have F2 := (show Hid _ from refFault_any (Lm.below LB.out hb1)); rw [f2.out] at F2)
    | (go_at_call 50; refine F2.out.mono ?_; rintro e w2 ⟨rfl, hb2⟩)
    | (go_at_call 51; refine (refColumns_any (Lm.below LA.out (bt hb1 hb2)) (by have := (fc_zero f1.out).1; omega)).mono ?_; rw [fm.out]; rintro e w' ⟨rfl, h⟩; obtain rfl := h.symm))
  have HB2 := (show Hid _ from bt hb1 hb2)
  have J2b : Hid (Jm w2 (.slice p2 r2 c2) r2 l2 (fun i j => nu (Q i j))) := Jm.below J2.out HB2.out
  have LBb := (show Hid _ from Lm.below LB.out HB2.out)
  have hr1 : r1 ≤ 255 := (fc_zero f1.out).1
  have hr2 : r2 ≤ 255 := (fc_zero f2.out).1
  have hm255 : m ≤ 255 := by
    have h3 := (fc_zero f2.out).2.1
    have h4 := hm.out
    unfold cw at h4
    by_cases e : r2 = 0
    · rw [if_pos e] at h4; omega
    · rw [if_neg e] at h4
      have := h3 0 (by omega); omega
  have HL1 : Hid (∀ i, i < r1 → l1 i = r2) := fun i hi => by
    have h3 := (fc_zero f1.out).2.2 i hi
    have h4 := fm.out
    unfold cw at h4
    rw [if_neg (by omega)] at h4
    omega
  have HL2 : Hid (∀ i, i < r2 → l2 i = m) := fun i hi => by
    have h3 := (fc_zero f2.out).2.2 i hi
    have h4 := hm.out
    unfold cw at h4
    rw [if_neg (by omega)] at h4
    omega
  obtain ⟨i0, hif, hz0, hz1, hz2⟩ := info_parts infoIR
  clear F1 F2 hb1 hb2
  go_loopw [9, 10] (fun v i wr => ∃ (k : Nat) (rows : Nat → Value), k ≤ r1 ∧ i = .int .i64 k ∧ wr.ownsRow w2.heap.size 23 1 v k (lv rows k) ∧ Hid (∀ i, i < k → Ir wr (rows i) m (fun j => nu (skk pl oz (fun t => ti (P i t) (Q t j)) r2))) ∧ Below w2.heap.size w2 wr) (fun _ i _ => r1 - (intOf i).toNat)
  case atStart => exact ⟨0, fun _ => .bool false, Nat.zero_le _, rfl, lv_none _ _ _ _ _, fun i hi => by omega, Below.refl _ _⟩
  case round =>
    obtain ⟨k, rows, hk, rfl, hown, hR, hb⟩ := hrel
    by_cases hlt : k < r1
    · have j1 : (k : Int) < (r1 : Int) := by omega
      have M1 : Hid (k + 1 ≤ maxLen) := by show _ ≤ _; unfold maxLen; omega
      have CB := (show Hid _ from refColumns_any (Lm.below LBb.out hb) (by omega))
      rw [hm.out] at CB
      go_wp2_with (first
        | (go_at_call 51; refine CB.out.mono ?_; rintro e w' ⟨rfl, h⟩; obtain rfl := h.symm)
        | (go_at_call 52; refine (zeros_any m (by omega) _).mono ?_; rintro e w3 ⟨v3, rfl, ho3, hb3⟩))
      have HB3 := (show Hid _ from hb3)
      have HOW : Hid (World.ownsRow w3 w2.heap.size 23 1 _ k (lv rows k)) := owns_below hown hb3
      have hR3 := (show Hid (∀ i, i < k → Ir w3 (rows i) m (fun j => nu (skk pl oz (fun t => ti (P i t) (Q t j)) r2))) from fun i hi => (hR.out i hi).below hb3)
      have HBR := (show Hid _ from bt hb hb3)
      have SZ : Hid (w2.heap.size ≤ w3.heap.size) := by show _ ≤ _; have := hb.size; have := hb3.size; omega
      obtain ⟨W0, hW0⟩ : ∃ W0, W0 = wr := ⟨_, rfl⟩
      subst hW0
      have HBO := (show Hid _ from hb)
      by_cases hm0 : m = 0
      · subst hm0
        have hI3 : Ir w3 v3 0 (fun j => nu (skk pl oz (fun t => ti (P k t) (Q t j)) r2)) := by
          exact ir_zero ho3
        obtain ⟨px, cx, ex⟩ := hI3.form
        subst ex
        refine wp_loop_rounds 1 ?_
        rw [rounds_succ]
        go_wp2_with (at_builtin; refine wpList_append_own _ rfl _ _ 22 rfl w2.heap.size 23 i0 (.slice none 0 0) 1 24 Try.underlying22 hif hz0 hz1 hz2 rfl (by decide) _ _ _ rfl (HOW.out.alloc _) ⟨_, 0, none⟩ 1 1 [.slice px 0 cx] rfl rfl (one_new _ _ _) (one_cellv rfl) M1.out (by omega) (by have := SZ.out; simp at *; omega) ?_; intro v' w4 hown' hgrow _)
        have hb4 := below_append (HBR.out.alloc SZ.out _) (by have := SZ.out; simp at *; omega) hgrow (HOW.out.alloc _) (Nat.le_refl _)
        rw [push_lv] at hown'
        have hR4 : Hid (∀ i, i < k + 1 → Ir w4 ((fun i => if i = k then .slice px 0 cx else rows i) i) 0 (fun j => nu (skk pl oz (fun t => ti (P i t) (Q t j)) r2))) := push_ir (l := fun _ => 0) (M := fun i j => nu (skk pl oz (fun t => ti (P i t) (Q t j)) r2)) HOW.out hgrow hR3.out hI3
        clear hgrow
        exact ⟨⟨k + 1, _, by omega, by go_num, hown', hR4, hb4⟩, by simp [intOf]; omega⟩
      · obtain ⟨g, cap, e3, hg, hgl, hcap, hmx, cs, hcs⟩ := owns_some ho3 (by omega)
        subst e3
        have HO3 : Hid (w3.ownsRow W0.heap.size 3 1 (.slice (some ⟨g, 0, none⟩) m cap) m (lv (fun q => .int .i64 (if q < 0 then nu (skk pl oz (fun t => ti (P k t) (Q t q)) r2) else 0)) m)) := by
          show World.ownsRow _ _ _ _ _ _ _
          rw [lv_congr (g := fun _ => .int .i64 0) (fun i _ => by rw [if_neg (by omega)])]; exact ho3
        have HOW0 := (show Hid _ from hown)
        have hR0 := (show Hid _ from hR.out)
        clear ho3 hcs hown hR hb3 hb
        go_loopw [12] (fun i wq => ∃ j : Nat, j ≤ m ∧ i = .int .i64 j ∧ wq.ownsRow W0.heap.size 3 1 (.slice (some ⟨g, 0, none⟩) m cap) m (lv (fun q => .int .i64 (if q < j then nu (skk pl oz (fun t => ti (P k t) (Q t q)) r2) else 0)) m) ∧ Below W0.heap.size W0 wq) (fun i _ => m - (intOf i).toNat)
        case atStart => exact ⟨0, Nat.zero_le _, rfl, HO3.out, HB3.out⟩
        case round =>
          clear HO3
          obtain ⟨j, hj, rfl, hor, hbq⟩ := hrel
          by_cases hltj : j < m
          · have i1 : (j : Int) < (m : Int) := by omega
            have HOR : Hid (wr.ownsRow W0.heap.size 3 1 (.slice (some ⟨g, 0, none⟩) m cap) m (lv (fun q => .int .i64 (if q < j then nu (skk pl oz (fun t => ti (P k t) (Q t q)) r2) else if q = j then nu (skk pl oz (fun t => ti (P k t) (Q t q)) 0) else 0)) m)) := by
              show World.ownsRow _ _ _ _ _ _ _
              rw [lv_congr (g := fun q => .int .i64 (if q < j then nu (skk pl oz (fun t => ti (P k t) (Q t q)) r2) else 0)) (fun q _ => by
                by_cases e : q < j
                · rw [if_pos e, if_pos e]
                · rw [if_neg e, if_neg e]
                  by_cases e2 : q = j
                  · rw [if_pos e2, skk_zero, HO.out]
                  · rw [if_neg e2])]
              exact hor
            have HBQ := (show Hid _ from hbq)
            clear hor hbq
            go_wp2
            go_loopw [13] (fun i wz => ∃ t : Nat, t ≤ r2 ∧ i = .int .i64 t ∧ wz.ownsRow W0.heap.size 3 1 (.slice (some ⟨g, 0, none⟩) m cap) m (lv (fun q => .int .i64 (if q < j then nu (skk pl oz (fun t => ti (P k t) (Q t q)) r2) else if q = j then nu (skk pl oz (fun t => ti (P k t) (Q t q)) t) else 0)) m) ∧ Below W0.heap.size W0 wz) (fun i _ => r2 - (intOf i).toNat)
            case atStart => exact ⟨0, Nat.zero_le _, rfl, HOR.out, HBQ.out⟩
            case round =>
              clear HOR HBQ
              obtain ⟨t, ht, rfl, hor, hbz⟩ := hrel
              by_cases hltt : t < r2
              · have i2 : (t : Int) < (r2 : Int) := by omega
                have bW := bt HB2.out HBO.out
                obtain ⟨pa, oa, ca, ea, hca⟩ := (R1.out k hlt).at (by rw [HL1.out k hlt]; omega)
                rw [HL1.out k hlt] at ea hca
                have a1 := H1.out k hlt
                rw [ea] at a1
                have a1W := cell_below a1 bW
                have a2W := cell_below (hca t hltt) bW
                obtain ⟨bb, ob, cb, rowsB, eb, hcb, hrb⟩ := Jm.at J2b.out (by omega)
                injection eb with eb1 _ eb2
                subst eb1 eb2
                obtain ⟨pb, ob2, cb2, eb3, hcb2⟩ := (hrb t hltt).at (by rw [HL2.out t hltt]; omega)
                rw [HL2.out t hltt] at eb3 hcb2
                have b1' := hcb t hltt
                rw [eb3] at b1'
                have b1W := cell_below b1' HBO.out
                have b2W := cell_below (hcb2 j hltj) HBO.out
                have n1 : ¬ b1 = g := by have := block_lt_of_cell a1W; simp only at this; omega
                have n2 : ¬ pa = g := by have := block_lt_of_cell a2W; simp only at this; omega
                have n3 : ¬ bb = g := by have := block_lt_of_cell b1W; simp only at this; omega
                have n4 : ¬ pb = g := by have := block_lt_of_cell b2W; simp only at this; omega
                have g1 := cell_below a1W hbz
                have g2 := cell_below a2W hbz
                have g3 := cell_below b1W hbz
                have g4 := cell_below b2W hbz
                have g5 := (owns_st1 hor).own_cell rfl hltj
                rw [if_neg (Nat.lt_irrefl j), if_pos rfl] at g5
                obtain ⟨g9, cap9, e9, _, _, _, _, cs9, hcs9⟩ := owns_some hor (by omega)
                have e9g : g = g9 := by
                  injection e9 with e9 _ _
                  injection e9 with e9
                  injection e9
                clear e9
                subst e9g
                have g6 := frozen_of_row wr g j _ _ hcs9
                have hx := HX.out (skk pl oz (fun t => ti (P k t) (Q t j)) t) (ti (P k t) (Q t j))
                have HS := owns_set hor j (.int .i64 (nu (pl (skk pl oz (fun t => ti (P k t) (Q t j)) t) (ti (P k t) (Q t j)))))
                have HSB := hbz.setCell hg (p := ⟨g, j, none⟩) (.int .i64 (nu (pl (skk pl oz (fun t => ti (P k t) (Q t j)) t) (ti (P k t) (Q t j)))))
                have HS2 : Hid (World.ownsRow (wr.setCell ⟨g, j, none⟩ (.int .i64 (nu (pl (skk pl oz (fun t => ti (P k t) (Q t j)) t) (ti (P k t) (Q t j)))))) W0.heap.size 3 1 (.slice (some ⟨g, 0, none⟩) m cap) m (lv (fun q => .int .i64 (if q < j then nu (skk pl oz (fun t => ti (P k t) (Q t q)) r2) else if q = j then nu (skk pl oz (fun t => ti (P k t) (Q t q)) (t + 1)) else 0)) m)) := by
                  show World.ownsRow _ _ _ _ _ _ _
                  rw [lv_congr (g := fun i => if i = j then .int .i64 (nu (pl (skk pl oz (fun t => ti (P k t) (Q t j)) t) (ti (P k t) (Q t j)))) else .int .i64 (if i < j then nu (skk pl oz (fun t => ti (P k t) (Q t i)) r2) else if i = j then nu (skk pl oz (fun t => ti (P k t) (Q t i)) t) else 0)) (fun q _ => by
                    by_cases e : q = j
                    · subst e; rw [if_neg (Nat.lt_irrefl q), if_pos rfl, if_pos rfl, skk_succ]
                    · rw [if_neg e, if_neg e, if_neg e])]
                  exact HS
                have HSB2 := (show Hid _ from HSB)
                have KH := (show Hid (_ ∧ _ ∧ _ ∧ _) from ⟨cell_below a1W HSB.drew, cell_below a2W HSB.drew, cell_below b1W HSB.drew, cell_below b2W HSB.drew⟩)
                have HK0 := (show Hid (_ ∧ _ ∧ _ ∧ _) from ⟨cell_below g1 (Below.refl _ _).drew, cell_below g2 (Below.refl _ _).drew, cell_below g3 (Below.refl _ _).drew, cell_below g4 (Below.refl _ _).drew⟩)
                clear HS HSB a1 a1W a2W b1' b1W b2W hca hcb hrb hcb2 hcs9 bW hor hbz
                go_wp2
                refine wp_region_noPanic ?_
                refine wp_region_held_drew (S := (fun W => W.cell? ⟨b1, o1 + k, none⟩ = some (.slice (some ⟨pa, oa, none⟩) r2 ca) ∧ W.cell? ⟨pa, oa + t, none⟩ = some (.int .i64 (nu (P k t))) ∧ W.cell? ⟨bb, ob + t, none⟩ = some (.slice (some ⟨pb, ob2, none⟩) m cb2) ∧ W.cell? ⟨pb, ob2 + j, none⟩ = some (.int .i64 (nu (Q t j))))) (by kernel_rfl) HK0.out (fun hHeld => ?_)
                refine takeH (i := 0) (d := some 53) (v := ?v1) rfl rfl (by kernel_rfl) (by kernel_rfl) (by kernel_rfl) (fun _ _ _ h => h) (Or.inl ⟨by rfl, ?hy1⟩) hHeld ?rest1
                case hy1 => intro w hSw; (try dsimp only at hSw); go_simp <;> with_reducible rfl
                try simp only [Act.put, List.setIfInBounds_toArray, List.set_cons_zero, List.set_cons_succ]
                refine takeH (i := 1) (d := some 54) (v := ?v2) rfl rfl (by kernel_rfl) (by kernel_rfl) (by kernel_rfl) (fun _ _ _ h => h) (Or.inl ⟨by rfl, ?hy2⟩) hHeld ?rest2
                case hy2 => intro w hSw; (try dsimp only at hSw); go_simp <;> with_reducible rfl
                try simp only [Act.put, List.setIfInBounds_toArray, List.set_cons_zero, List.set_cons_succ]
                refine takeH (i := 2) (d := some 55) (v := ?v3) rfl rfl (by kernel_rfl) (by kernel_rfl) (by kernel_rfl) (fun _ _ _ h => h) (Or.inl ⟨by rfl, ?hy3⟩) hHeld ?rest3
                case hy3 => intro w hSw; (try dsimp only at hSw); go_simp <;> with_reducible rfl
                try simp only [Act.put, List.setIfInBounds_toArray, List.set_cons_zero, List.set_cons_succ]
                refine takeH (i := 3) (d := some 56) (v := ?v4) rfl rfl (by kernel_rfl) (by kernel_rfl) (by kernel_rfl) (fun _ _ _ h => h) (Or.inl ⟨by rfl, ?hy4⟩) hHeld ?rest4
                case hy4 => intro w hSw; (try dsimp only at hSw); go_simp <;> with_reducible rfl
                try simp only [Act.put, List.setIfInBounds_toArray, List.set_cons_zero, List.set_cons_succ]
                refine takeH (i := 4) (d := some 57) (v := ?v5) rfl rfl (by kernel_rfl) (by kernel_rfl) (by kernel_rfl) (fun _ _ _ h => h) (Or.inl ⟨by rfl, ?hy5⟩) hHeld ?rest5
                case hy5 => intro w hSw; (try dsimp only at hSw); go_simp <;> with_reducible rfl
                try simp only [Act.put, List.setIfInBounds_toArray, List.set_cons_zero, List.set_cons_succ]
                refine takeH (i := 6) (d := some 59) (v := ?v6) rfl rfl (by kernel_rfl) (by kernel_rfl) (by kernel_rfl) (fun _ _ _ h => h) (Or.inl ⟨by rfl, ?hy6⟩) hHeld ?rest6
                case hy6 => intro w hSw; (try dsimp only at hSw); go_simp <;> with_reducible rfl
                try simp only [Act.put, List.setIfInBounds_toArray, List.set_cons_zero, List.set_cons_succ]
                refine takeH (i := 7) (d := some 60) (v := ?v7) rfl rfl (by kernel_rfl) (by kernel_rfl) (by kernel_rfl) (fun _ _ _ h => h) (Or.inl ⟨by rfl, ?hy7⟩) hHeld ?rest7
                case hy7 => intro w hSw; (try dsimp only at hSw); go_simp <;> with_reducible rfl
                try simp only [Act.put, List.setIfInBounds_toArray, List.set_cons_zero, List.set_cons_succ]
                refine takeH (i := 8) (d := some 61) (v := ?v8) rfl rfl (by kernel_rfl) (by kernel_rfl) (by kernel_rfl) (fun _ _ _ h => h) (Or.inl ⟨by rfl, ?hy8⟩) hHeld ?rest8
                case hy8 => intro w hSw; (try dsimp only at hSw); go_simp <;> with_reducible rfl
                try simp only [Act.put, List.setIfInBounds_toArray, List.set_cons_zero, List.set_cons_succ]
                refine takeH (i := 9) (d := some 62) (v := ?v9) rfl rfl (by kernel_rfl) (by kernel_rfl) (by kernel_rfl) (fun _ _ _ h => h) (Or.inl ⟨by rfl, ?hy9⟩) hHeld ?rest9
                case hy9 => intro w hSw; (try dsimp only at hSw); go_simp <;> with_reducible rfl
                try simp only [Act.put, List.setIfInBounds_toArray, List.set_cons_zero, List.set_cons_succ]
                refine takeH (i := 10) (d := some 63) (v := ?v10) rfl rfl (by kernel_rfl) (by kernel_rfl) (by kernel_rfl) (fun _ _ _ h => h) (Or.inl ⟨by rfl, ?hy10⟩) hHeld ?rest10
                case hy10 => intro w hSw; (try dsimp only at hSw); go_simp <;> with_reducible rfl
                try simp only [Act.put, List.setIfInBounds_toArray, List.set_cons_zero, List.set_cons_succ]
                refine takeH (i := 11) (d := some 64) (v := ?v11) rfl rfl (by kernel_rfl) (by kernel_rfl) (by kernel_rfl) (fun _ _ _ h => h) (Or.inl ⟨by rfl, ?hy11⟩) hHeld ?rest11
                case hy11 => intro w hSw; (try dsimp only at hSw); go_simp <;> with_reducible rfl
                try simp only [Act.put, List.setIfInBounds_toArray, List.set_cons_zero, List.set_cons_succ]
                refine takeH (i := 12) (d := some 65) (v := ?v12) rfl rfl (by kernel_rfl) (by kernel_rfl) (by kernel_rfl) (fun _ _ _ h => h) (Or.inl ⟨by rfl, ?hy12⟩) hHeld ?rest12
                case hy12 => intro w hSw; (try dsimp only at hSw); go_simp <;> with_reducible rfl
                try simp only [Act.put, List.setIfInBounds_toArray, List.set_cons_zero, List.set_cons_succ]
                refine takeH (i := 13) (d := some 66) (v := ?v13) rfl rfl (by kernel_rfl) (by kernel_rfl) (by kernel_rfl) (fun _ _ _ h => h) (Or.inl ⟨by rfl, ?hy13⟩) hHeld ?rest13
                case hy13 => intro w hSw; (try dsimp only at hSw); go_simp <;> with_reducible rfl
                try simp only [Act.put, List.setIfInBounds_toArray, List.set_cons_zero, List.set_cons_succ]
                refine takeH (i := 14) (d := some 67) (v := ?v14) rfl rfl (by kernel_rfl) (by kernel_rfl) (by kernel_rfl) (fun _ _ _ h => h) (Or.inl ⟨by rfl, ?hy14⟩) hHeld ?rest14
                case hy14 => intro w hSw; (try dsimp only at hSw); go_simp <;> with_reducible rfl
                try simp only [Act.put, List.setIfInBounds_toArray, List.set_cons_zero, List.set_cons_succ]
                refine takeH (i := 15) (d := some 68) (v := ?v15) rfl rfl (by kernel_rfl) (by kernel_rfl) (by kernel_rfl) (fun _ _ _ h => h) (Or.inl ⟨by rfl, ?hy15⟩) hHeld ?rest15
                case hy15 => intro w hSw; (try dsimp only at hSw); go_simp <;> with_reducible rfl
                try simp only [Act.put, List.setIfInBounds_toArray, List.set_cons_zero, List.set_cons_succ]
                refine takeH (i := 16) (d := some 69) (v := ?v16) rfl rfl (by kernel_rfl) (by kernel_rfl) (by kernel_rfl) (fun _ _ _ h => h) (Or.inl ⟨by rfl, ?hy16⟩) hHeld ?rest16
                case hy16 => intro w hSw; (try dsimp only at hSw); go_simp <;> with_reducible rfl
                try simp only [Act.put, List.setIfInBounds_toArray, List.set_cons_zero, List.set_cons_succ]
                refine takeH (i := 17) (d := some 70) (v := ?v17) rfl rfl (by kernel_rfl) (by kernel_rfl) (by kernel_rfl) (fun _ _ _ h => h) (Or.inl ⟨by rfl, ?hy17⟩) hHeld ?rest17
                case hy17 => intro w hSw; (try dsimp only at hSw); go_simp <;> with_reducible rfl
                try simp only [Act.put, List.setIfInBounds_toArray, List.set_cons_zero, List.set_cons_succ]
                refine takeH (i := 18) (d := some 71) (v := ?v18) rfl rfl (by kernel_rfl) (by kernel_rfl) (by kernel_rfl) (fun _ _ _ h => h) (Or.inl ⟨by rfl, ?hy18⟩) hHeld ?rest18
                case hy18 => intro w hSw; (try dsimp only at hSw); go_simp <;> with_reducible rfl
                try simp only [Act.put, List.setIfInBounds_toArray, List.set_cons_zero, List.set_cons_succ]
                refine takeH (i := 19) (d := some 72) (v := ?v19) rfl rfl (by kernel_rfl) (by kernel_rfl) (by kernel_rfl) (fun _ _ _ h => h) (Or.inl ⟨by rfl, ?hy19⟩) hHeld ?rest19
                case hy19 => intro w hSw; (try dsimp only at hSw); go_simp <;> with_reducible rfl
                try simp only [Act.put, List.setIfInBounds_toArray, List.set_cons_zero, List.set_cons_succ]
                refine takeH (i := 20) (d := some 73) (v := ?v20) rfl rfl (by kernel_rfl) (by kernel_rfl) (by kernel_rfl) (fun _ _ _ h => h) (Or.inl ⟨by rfl, ?hy20⟩) hHeld ?rest20
                case hy20 => intro w hSw; (try dsimp only at hSw); go_simp <;> with_reducible rfl
                try simp only [Act.put, List.setIfInBounds_toArray, List.set_cons_zero, List.set_cons_succ]
                refine wpAnyH_ready (rs := [5, 21]) (by kernel_rfl) (by simp) ?_
                refine AllReadyH.cons (o := { dst := some 58, op := Op.load 3 (Operand.tmp 57), type := 3, pos := "ref.go:137", after := #[{ on := 4, ground := Ground.data }], guard := none }) rfl (fun K hK => ?_) ?_
                · go_simp
                  refine hK.out _ _ hHeld (fun _ => ?_)
                  clear hK K
                  try simp only [Act.put, List.setIfInBounds_toArray, List.set_cons_zero, List.set_cons_succ]
                  refine wpAnyH_ready (rs := [21]) (by kernel_rfl) (by simp) ?_
                  refine AllReadyH.cons (o := { dst := some 74, op := Op.call { callee := Callee.value (Operand.func 53), args := #[Operand.tmp 59, Operand.tmp 66, Operand.tmp 73], argTypes := #[3, 3, 3] }, type := 3, pos := "ref.go:137", after := #[{ on := 6, ground := Ground.data }, { on := 13, ground := Ground.data }, { on := 20, ground := Ground.data }], guard := none }) rfl (fun K hK => ?_) ?_
                  · go_simp
                    refine (HM.out (P k t) (Q t j) _).mono ?_
                    rintro e w' ⟨rfl, h⟩
                    obtain rfl := h.symm
                    refine hK.out _ _ hHeld (fun _ => ?_)
                    clear hK K
                    try simp only [Act.put, List.setIfInBounds_toArray, List.set_cons_zero, List.set_cons_succ]
                    refine takeH (i := 22) (d := some 75) (v := ?v21) rfl rfl (by kernel_rfl) (by kernel_rfl) (by kernel_rfl) (fun _ _ _ h => h) (Or.inl ⟨by rfl, ?hy21⟩) hHeld ?rest21
                    case hy21 => intro w hSw; (try dsimp only at hSw); go_simp <;> with_reducible rfl
                    try simp only [Act.put, List.setIfInBounds_toArray, List.set_cons_zero, List.set_cons_succ]
                    refine takeH (i := 23) (d := some 76) (v := ?v22) rfl rfl (by kernel_rfl) (by kernel_rfl) (by kernel_rfl) (fun _ _ _ h => h) (Or.inl ⟨by rfl, ?hy22⟩) hHeld ?rest22
                    case hy22 => intro w hSw; (try dsimp only at hSw); go_simp <;> with_reducible rfl
                    try simp only [Act.put, List.setIfInBounds_toArray, List.set_cons_zero, List.set_cons_succ]
                    refine wpAnyH_ready (rs := [24]) (by kernel_rfl) (by simp) ?_
                    refine AllReadyH.cons (o := { dst := none, op := Op.store 3 (Operand.tmp 76) (Operand.tmp 75), type := 0, pos := "ref.go:137", after := #[{ on := 23, ground := Ground.data }, { on := 22, ground := Ground.data }, { on := 21, ground := Ground.chain }, { on := 0, ground := Ground.phase }, { on := 1, ground := Ground.phase }, { on := 2, ground := Ground.phase }, { on := 3, ground := Ground.phase }, { on := 4, ground := Ground.phase }, { on := 5, ground := Ground.phase }, { on := 6, ground := Ground.phase }, { on := 7, ground := Ground.phase }, { on := 8, ground := Ground.phase }, { on := 9, ground := Ground.phase }, { on := 10, ground := Ground.phase }, { on := 11, ground := Ground.phase }, { on := 12, ground := Ground.phase }, { on := 13, ground := Ground.phase }, { on := 14, ground := Ground.phase }, { on := 15, ground := Ground.phase }, { on := 16, ground := Ground.phase }, { on := 17, ground := Ground.phase }, { on := 18, ground := Ground.phase }, { on := 19, ground := Ground.phase }, { on := 20, ground := Ground.phase }, { on := 21, ground := Ground.phase }, { on := 22, ground := Ground.phase }], guard := none }) rfl (fun K hK => ?_) AllReadyH.nil
                    go_simp
                    refine hK.out _ _ KH.out (fun _ => ?_)
                    clear hK K
                    try simp only [Act.put, List.setIfInBounds_toArray, List.set_cons_zero, List.set_cons_succ]
                    refine wpAnyH_done (by kernel_rfl) ?_ _
                    refine NoPanic.normal ?_
                    go_wp2
                    exact ⟨⟨t + 1, by omega, by go_num, owns_below HS2.out (Below.refl _ _).drew, HSB2.out.drew⟩, by simp [intOf]; omega⟩
                  · exact AllReadyH.nil
                refine AllReadyH.cons (o := { dst := some 74, op := Op.call { callee := Callee.value (Operand.func 53), args := #[Operand.tmp 59, Operand.tmp 66, Operand.tmp 73], argTypes := #[3, 3, 3] }, type := 3, pos := "ref.go:137", after := #[{ on := 6, ground := Ground.data }, { on := 13, ground := Ground.data }, { on := 20, ground := Ground.data }], guard := none }) rfl (fun K hK => ?_) ?_
                · go_simp
                  refine (HM.out (P k t) (Q t j) _).mono ?_
                  rintro e w' ⟨rfl, h⟩
                  obtain rfl := h.symm
                  refine hK.out _ _ hHeld (fun _ => ?_)
                  clear hK K
                  try simp only [Act.put, List.setIfInBounds_toArray, List.set_cons_zero, List.set_cons_succ]
                  refine wpAnyH_ready (rs := [5]) (by kernel_rfl) (by simp) ?_
                  refine AllReadyH.cons (o := { dst := some 58, op := Op.load 3 (Operand.tmp 57), type := 3, pos := "ref.go:137", after := #[{ on := 4, ground := Ground.data }], guard := none }) rfl (fun K hK => ?_) ?_
                  · go_simp
                    refine hK.out _ _ hHeld (fun _ => ?_)
                    clear hK K
                    try simp only [Act.put, List.setIfInBounds_toArray, List.set_cons_zero, List.set_cons_succ]
                    refine takeH (i := 22) (d := some 75) (v := ?v23) rfl rfl (by kernel_rfl) (by kernel_rfl) (by kernel_rfl) (fun _ _ _ h => h) (Or.inl ⟨by rfl, ?hy23⟩) hHeld ?rest23
                    case hy23 => intro w hSw; (try dsimp only at hSw); go_simp <;> with_reducible rfl
                    try simp only [Act.put, List.setIfInBounds_toArray, List.set_cons_zero, List.set_cons_succ]
                    refine takeH (i := 23) (d := some 76) (v := ?v24) rfl rfl (by kernel_rfl) (by kernel_rfl) (by kernel_rfl) (fun _ _ _ h => h) (Or.inl ⟨by rfl, ?hy24⟩) hHeld ?rest24
                    case hy24 => intro w hSw; (try dsimp only at hSw); go_simp <;> with_reducible rfl
                    try simp only [Act.put, List.setIfInBounds_toArray, List.set_cons_zero, List.set_cons_succ]
                    refine wpAnyH_ready (rs := [24]) (by kernel_rfl) (by simp) ?_
                    refine AllReadyH.cons (o := { dst := none, op := Op.store 3 (Operand.tmp 76) (Operand.tmp 75), type := 0, pos := "ref.go:137", after := #[{ on := 23, ground := Ground.data }, { on := 22, ground := Ground.data }, { on := 21, ground := Ground.chain }, { on := 0, ground := Ground.phase }, { on := 1, ground := Ground.phase }, { on := 2, ground := Ground.phase }, { on := 3, ground := Ground.phase }, { on := 4, ground := Ground.phase }, { on := 5, ground := Ground.phase }, { on := 6, ground := Ground.phase }, { on := 7, ground := Ground.phase }, { on := 8, ground := Ground.phase }, { on := 9, ground := Ground.phase }, { on := 10, ground := Ground.phase }, { on := 11, ground := Ground.phase }, { on := 12, ground := Ground.phase }, { on := 13, ground := Ground.phase }, { on := 14, ground := Ground.phase }, { on := 15, ground := Ground.phase }, { on := 16, ground := Ground.phase }, { on := 17, ground := Ground.phase }, { on := 18, ground := Ground.phase }, { on := 19, ground := Ground.phase }, { on := 20, ground := Ground.phase }, { on := 21, ground := Ground.phase }, { on := 22, ground := Ground.phase }], guard := none }) rfl (fun K hK => ?_) AllReadyH.nil
                    go_simp
                    refine hK.out _ _ KH.out (fun _ => ?_)
                    clear hK K
                    try simp only [Act.put, List.setIfInBounds_toArray, List.set_cons_zero, List.set_cons_succ]
                    refine wpAnyH_done (by kernel_rfl) ?_ _
                    refine NoPanic.normal ?_
                    go_wp2
                    exact ⟨⟨t + 1, by omega, by go_num, owns_below HS2.out (Below.refl _ _).drew, HSB2.out.drew⟩, by simp [intOf]; omega⟩
                  · exact AllReadyH.nil
                exact AllReadyH.nil
              · obtain rfl : t = r2 := by omega
                have hor2 : wr.ownsRow W0.heap.size 3 1 (.slice (some ⟨g, 0, none⟩) m cap) m (lv (fun q => .int .i64 (if q < j + 1 then nu (skk pl oz (fun t => ti (P k t) (Q t q)) t) else 0)) m) := by
                  rw [lv_congr (g := fun q => .int .i64 (if q < j then nu (skk pl oz (fun t => ti (P k t) (Q t q)) t) else if q = j then nu (skk pl oz (fun t => ti (P k t) (Q t q)) t) else 0)) (fun q _ => by
                    by_cases e : q < j
                    · rw [if_pos (by omega), if_pos e]
                    · by_cases e2 : q = j
                      · rw [if_pos (by omega), if_neg e, if_pos e2]
                      · rw [if_neg (by omega), if_neg e, if_neg e2])]
                  exact hor
                go_wp2
                exact ⟨⟨j + 1, by omega, by go_num, hor2, hbz⟩, by simp [intOf]; omega⟩
          · obtain rfl : j = m := by omega
            have hI3 : Ir wr (.slice (some ⟨g, 0, none⟩) j cap) j (fun q => nu (skk pl oz (fun t => ti (P k t) (Q t q)) r2)) := by
              refine own_ir' (base := W0.heap.size) ?_
              rw [lv_congr (g := fun q => .int .i64 (if q < j then nu (skk pl oz (fun t => ti (P k t) (Q t q)) r2) else 0)) (fun q hq => by rw [if_pos hq])]
              exact hor
            have HOWr : Hid (World.ownsRow wr w2.heap.size 23 1 _ k (lv rows k)) := owns_below HOW0.out hbq
            have hRr := (show Hid (∀ i, i < k → Ir wr (rows i) j (fun q => nu (skk pl oz (fun t => ti (P i t) (Q t q)) r2))) from fun i hi => (hR0.out i hi).below hbq)
            have HBRr := (show Hid _ from bt HBO.out hbq)
            have SZr : Hid (w2.heap.size ≤ wr.heap.size) := by show _ ≤ _; have := HBO.out.size; have := hbq.size; omega
            clear hor hbq
            go_wp2_with (at_builtin; refine wpList_append_own _ rfl _ _ 22 rfl w2.heap.size 23 i0 (.slice none 0 0) 1 24 Try.underlying22 hif hz0 hz1 hz2 rfl (by decide) _ _ _ rfl (HOWr.out.alloc _) ⟨_, 0, none⟩ 1 1 [.slice (some ⟨g, 0, none⟩) j cap] rfl rfl (one_new _ _ _) (one_cellv rfl) M1.out (by omega) (by have := SZr.out; simp at *; omega) ?_; intro v' w4 hown' hgrow _)
            have hb4 := below_append (HBRr.out.alloc SZr.out _) (by have := SZr.out; simp at *; omega) hgrow (HOWr.out.alloc _) (Nat.le_refl _)
            rw [push_lv] at hown'
            have hR4 : Hid (∀ i, i < k + 1 → Ir w4 ((fun i => if i = k then .slice (some ⟨g, 0, none⟩) j cap else rows i) i) j (fun q => nu (skk pl oz (fun t => ti (P i t) (Q t q)) r2))) := push_ir (l := fun _ => j) (M := fun i q => nu (skk pl oz (fun t => ti (P i t) (Q t q)) r2)) HOWr.out hgrow hRr.out hI3
            clear hgrow
            exact ⟨⟨k + 1, _, by omega, by go_num, hown', hR4, hb4⟩, by simp [intOf]; omega⟩
    · obtain rfl : k = r1 := by omega
      go_wp2
      go_ret2
      have h9 := HB2.out.size
      exact ⟨_, rfl, ⟨rows, owns_st1 hown, hR.out⟩, bt HB2.out hb⟩
end
end Go.Proofs.Ytchmggehbajebaa
