/-
  word, Encode, Rebuild: what room each row has.
-/
import Derived.Test.YtgokkppojhokbaaCm
namespace Go.Proofs.Ytgokkppojhokbaa
open Go.RowKit
/-- Rows of n bytes with no more room. -/
def NmC (w : World) (v : Value) (r n : Nat) (N : Nat → Nat → BitVec 8) : Prop := ∃ rows : Nat → Value, St w 23 v r rows r ∧ (∀ i, i < r → St w 5 (rows i) n (clE (N i)) n) ∧ ∀ i, i < r → ∃ p, rows i = .slice p n n
theorem nmC_mk {w : World} {v : Value} {r n : Nat} {N : Nat → Nat → BitVec 8} {rows : Nat → Value} (h1 : St w 23 v r rows r) (h2 : ∀ i, i < r → St w 5 (rows i) n (clE (N i)) n) (h3 : ∀ i, i < r → ∃ p, rows i = .slice p n n) : NmC w v r n N := ⟨rows, h1, h2, h3⟩
theorem NmC.nm {w : World} {v : Value} {r n : Nat} {N : Nat → Nat → BitVec 8} (h : NmC w v r n N) : NmE w v r (fun _ => n) N := by
  obtain ⟨rows, h1, h2, _⟩ := h
  exact ⟨rows, h1.sv, fun i hi => (h2 i hi).sv⟩
theorem NmC.below {w w' : World} {v : Value} {r n : Nat} {N : Nat → Nat → BitVec 8} (h : NmC w v r n N) (hb : Below w.heap.size w w') : NmC w' v r n N := by
  obtain ⟨rows, h1, h2, h3⟩ := h
  exact ⟨rows, h1.below hb, fun i hi => (h2 i hi).below hb, h3⟩
theorem St.but {w w' : World} {t t' : TypeId} {v : Value} {l : Nat} {f : Nat → Value} {n g : Nat} {cs' : Array Value} {z' : Nat × Nat} (h : St w t v l f n) (hb : But g w w') (hg : w.heap[g]? = some (.cells cs' t' z')) (ht : t ≠ t') : St w' t v l f n := by
  obtain ⟨p, c, e, h⟩ := h
  refine ⟨p, c, e, ?_⟩
  rcases h with h | ⟨b, o, cs, z, e2, h1, h2⟩
  · exact .inl h
  · refine .inr ⟨b, o, cs, z, e2, ?_, h2⟩
    rw [hb.ot b (lt_of_block h1) (fun e3 => by
      subst e3
      rw [hg] at h1
      injection h1 with h1
      injection h1 with _ h1 _
      exact ht h1.symm)]
    exact h1
theorem NmC.but {w w' : World} {v : Value} {r n g : Nat} {N : Nat → Nat → BitVec 8} {t' : TypeId} {cs' : Array Value} {z' : Nat × Nat} (h : NmC w v r n N) (hb : But g w w') (hg : w.heap[g]? = some (.cells cs' t' z')) (h1 : 23 ≠ t') (h2 : 5 ≠ t') : NmC w' v r n N := by
  obtain ⟨rows, a1, a2, a3⟩ := h
  exact ⟨rows, a1.but hb hg h1, fun i hi => (a2 i hi).but hb hg h2, a3⟩
theorem nmC_congr {w : World} {v : Value} {r n : Nat} {N N' : Nat → Nat → BitVec 8} (h : NmC w v r n N) (e : ∀ i, i < r → ∀ j, j < n → N i j = N' i j) : NmC w v r n N' := by
  obtain ⟨rows, h1, h2, h3⟩ := h
  exact ⟨rows, h1, fun i hi => St.congr (h2 i hi) (fun j hj => by unfold clE; rw [e i hi j hj]), h3⟩
theorem NmC.at {w : World} {p : Option Addr} {r c n : Nat} {N : Nat → Nat → BitVec 8} (h : NmC w (.slice p r c) r n N) (h0 : 0 < r) : ∃ (b o : Nat) (ps : Nat → Option Addr), p = some ⟨b, o, none⟩ ∧ (∀ i, i < r → w.cell? ⟨b, o + i, none⟩ = some (.slice (ps i) n n)) ∧ ∀ i, i < r → St w 5 (.slice (ps i) n n) n (clE (N i)) n := by
  obtain ⟨rows, g1, g2, h3⟩ := h
  obtain ⟨p', c', e, h1⟩ := g1.sv
  have h2 := g2
  injection e with e1 e2 e3
  subst e1
  rcases h1 with h1 | ⟨b, o, e, hc⟩
  · omega
  · have h4 : ∀ i, ∃ q, i < r → rows i = .slice q n n := fun i => by
      by_cases hi : i < r
      · obtain ⟨q, hq⟩ := h3 i hi; exact ⟨q, fun _ => hq⟩
      · exact ⟨none, fun h => absurd h hi⟩
    refine ⟨b, o, fun i => (h4 i).choose, e, fun i hi => ?_, fun i hi => ?_⟩
    · have := hc i hi; rw [(h4 i).choose_spec hi] at this; exact this
    · have := h2 i hi; rw [(h4 i).choose_spec hi] at this; exact this
/-- Rows of any lengths, in blocks of their own types. -/
def NmT (w : World) (v : Value) (r : Nat) (l : Nat → Nat) (N : Nat → Nat → BitVec 8) : Prop := ∃ rows : Nat → Value, St w 23 v r rows r ∧ ∀ i, i < r → St w 5 (rows i) (l i) (clE (N i)) (l i)
theorem NmT.nm {w : World} {v : Value} {r : Nat} {l : Nat → Nat} {N : Nat → Nat → BitVec 8} (h : NmT w v r l N) : NmE w v r l N := by
  obtain ⟨rows, h1, h2⟩ := h
  exact ⟨rows, h1.sv, fun i hi => (h2 i hi).sv⟩
theorem NmT.below {w w' : World} {v : Value} {r : Nat} {l : Nat → Nat} {N : Nat → Nat → BitVec 8} (h : NmT w v r l N) (hb : Below w.heap.size w w') : NmT w' v r l N := by
  obtain ⟨rows, h1, h2⟩ := h
  exact ⟨rows, h1.below hb, fun i hi => (h2 i hi).below hb⟩
theorem NmT.but {w w' : World} {v : Value} {r g : Nat} {l : Nat → Nat} {N : Nat → Nat → BitVec 8} {t' : TypeId} {cs' : Array Value} {z' : Nat × Nat} (h : NmT w v r l N) (hb : But g w w') (hg : w.heap[g]? = some (.cells cs' t' z')) (h1 : 23 ≠ t') (h2 : 5 ≠ t') : NmT w' v r l N := by
  obtain ⟨rows, a1, a2⟩ := h
  exact ⟨rows, a1.but hb hg h1, fun i hi => (a2 i hi).but hb hg h2⟩
theorem NmT.congr {w : World} {v : Value} {r : Nat} {l : Nat → Nat} {N N' : Nat → Nat → BitVec 8} (h : NmT w v r l N) (e : ∀ i, i < r → ∀ j, j < l i → N i j = N' i j) : NmT w v r l N' := by
  obtain ⟨rows, h1, h2⟩ := h
  exact ⟨rows, h1, fun i hi => St.congr (h2 i hi) (fun j hj => by unfold clE; rw [e i hi j hj])⟩
theorem own_but {w w' : World} {base n g0 : Nat} {t : TypeId} {v : Value} {xs : List Value} (h : w.ownsRow base t 1 v n xs) (hb : But g0 w w') (hg0 : g0 < base) : w'.ownsRow base t 1 v n xs := by
  refine ⟨h.1, ?_⟩
  rcases h.2 with h1 | ⟨g, cap, c, hv, hg, hh, hc⟩
  · exact .inl h1
  · refine .inr ⟨g, cap, c, hv, hg, ?_, hc⟩
    rw [hb.ot g (lt_of_block hh) (by omega)]
    exact hh
section
attribute [local irreducible] Calls el Ov clE NmE NrE skk tiE plE lv
set_option maxHeartbeats 8000000 in
set_option maxRecDepth 1000000 in
theorem word_cap (k m n B : Nat) (ρ : Nat → Nat) (v : Value) (F D : Nat → Nat → BitVec 8) (w : World) (hk : 1 ≤ k) (hm : 1 ≤ m) (hkm : k + m ≤ 255) (hn : n ≤ 140737488355328) (hC : Cd w v k m F) (hG : Hid (Gr w 23 5 B k n n ρ (fun i => clE (D i)))) :
    Calls Try.prog 27 #[v, .slice (some ⟨B, 0, none⟩) k k] w fun e w' => ∃ v', e = .returned v' ∧ NmC w' v' (k + m) n (fun i c => if i < k then D i c else skk plE oE (fun j => tiE (F i j) (D j c)) k) ∧ Below w.heap.size w w' ∧ Capd v' (k + m) := by
  obtain ⟨cb, pF, cF, rfl, c1, c2, hcap, hF⟩ := hC
  obtain ⟨bF, oF, rowsF, e2, hcF, hrF⟩ := nm_at hF (by omega)
  subst e2
  have HCF : Hid (∀ i, i < k + m → w.cell? ⟨bF, oF + i, none⟩ = some (rowsF i)) := hcF
  have HRF : Hid (∀ i, i < k + m → NrE w (rowsF i) k (F i)) := hrF
  have j1 : (k : Int) ≤ (k : Int) + (m : Int) := by omega
  have j2 : (0 : Int) ≤ (k : Int) := by omega
  have j3 : (k : Int) ≤ ((k + m : Nat) : Int) := by omega
  have kn : ¬ m = 0 := by omega
  have kn2 : ¬ k = 0 := by omega
  have kn3 : ¬ cF = k := by omega
  obtain ⟨i0, hi0, hz0, hz1, hz2⟩ := info_parts infoY
  have HND := (show Hid _ from gr_nm hG.out)
  clear hF hcF hrF
  go_enter Try.func27, Try.ntmps27
  go_wp2
  go_quiet (fail)
  go_wp2
  go_loopw [5, 19] (fun v i wr => ∃ (t : Nat) (rows : Nat → Value), t ≤ m ∧ i = .int .i64 t ∧ ((t = 0 ∧ v = .slice (some ⟨B, 0, none⟩) k k) ∨ (0 < t ∧ wr.ownsRow w.heap.size 23 1 v (k + t) (lv (fun i => if i < k then .slice (some ⟨ρ i, 0, none⟩) n n else rows i) (k + t)))) ∧ Hid (∀ i, k ≤ i → i < k + t → ∃ g, rows i = .slice (some ⟨g, 0, none⟩) n n ∧ Ov wr 5 g (clE (fun c => skk plE oE (fun j => tiE (F i j) (D j c)) k)) n) ∧ Below w.heap.size w wr) (fun _ i _ => m - (intOf i).toNat)
  case atStart => exact ⟨0, fun _ => .bool false, Nat.zero_le _, rfl, .inl ⟨rfl, rfl⟩, fun i h1 h2 => by omega, below_drewN (Below.refl _ _) _⟩
  case round =>
    obtain ⟨t, rows, ht, rfl, hv, hR, hb⟩ := hrel
    by_cases hlt : t < m
    · have q1 : (t : Int) < (m : Int) := by omega
      obtain ⟨pr, cr, er, hra⟩ := nr_un (HRF.out (k + t) (by omega))
      have g0 : w.cell? ⟨bF, oF + k + t, none⟩ = some (.slice pr k cr) := by have h := HCF.out (k + t) (by omega); rw [er] at h; rw [Nat.add_assoc]; exact h
      have g1 := cell_below g0 hb
      have SU := (show Hid _ from codeSum_core pr (some ⟨B, 0, none⟩) k cr k k n (F (k + t)) D wr (Nat.le_refl _) (by omega) (by omega) hn (fun h0 => by obtain ⟨b, o, e, h⟩ := hra h0; exact ⟨b, o, e, fun i hi => cell_below (h i hi) hb⟩) (NmE.below HND.out hb))
      have HB := (show Hid _ from hb)
      have HV := (show Hid _ from hv)
      clear er hra hb hv
      rcases HV.out with ⟨ht0, hv0⟩ | ⟨htp, hown⟩
      · subst ht0 hv0
        rw [Nat.add_zero] at g1
        go_wp2_with (first
          | (go_at_call 45; refine SU.out.mono ?_; rintro e w2 ⟨g, rfl, hO2, hg2, hb2⟩; have hD2 := (show Hid _ from gr_cells hG.out (bt HB.out hb2)))
          | (at_builtin; refine wpList_append_grows _ rfl _ _ 42 rfl 23 i0 (.slice none 0 0) 1 24 Try.underlying42 hi0 hz0 hz1 hz2 rfl (by decide) (some ⟨B, 0, none⟩) k k (lv (fun i => .slice (some ⟨ρ i, 0, none⟩) n n) k) rfl (fun h => by cases h) (by rw [lv_len, Nat.mul_one]) (fun b hb' j u hj => by cases hb'; exact cell_below (hD2.out j u hj) ((Below.refl _ _).alloc (Nat.le_refl _) _)) ⟨_, 0, none⟩ 1 1 [.slice (some ⟨g, 0, none⟩) n n] rfl rfl (one_new _ _ _) (one_cellv rfl) (by omega) (by unfold maxLen; omega) (by omega) ?_; intro v' w3 hown' hgrow))
        have hS2 : Ov w3 5 g (clE (fun c => skk plE oE (fun j => tiE (F (k + 0) j) (D j c)) k)) n := (hO2.below ((Below.refl _ _).alloc (Nat.le_refl _) _)).below (grown_none hgrow)
        have hb3 := bt (bt HB.out hb2) (bt ((Below.refl _ w2).alloc (Nat.le_refl _) _) (grown_none hgrow))
        have e0 := lv_push (fun i => .slice (some ⟨ρ i, 0, none⟩) n n) rows k 0 (.slice (some ⟨g, 0, none⟩) n n)
        rw [Nat.add_zero, lv_congr (g := fun i => .slice (some ⟨ρ i, 0, none⟩) n n) (fun i hi => by rw [if_pos hi])] at e0
        rw [e0] at hown'
        have hown2 := owns_base (b' := w.heap.size) hown' (by have := HB.out.size; have := hb2.size; simp; omega)
        clear hown' hgrow
        go_roundw
        case rel => exact ⟨0 + 1, fun i => if i = k + 0 then .slice (some ⟨g, 0, none⟩) n n else rows i, by omega, by go_num, .inr ⟨by omega, hown2⟩, fun i h1 h2 => ⟨g, by show (if i = k + 0 then _ else _) = _; rw [if_pos (by omega)], by rw [show i = k + 0 by omega]; exact hS2⟩, hb3⟩
        case measure => simp [intOf]; omega
      · go_wp2_with (first
          | (go_at_call 45; refine SU.out.mono ?_; rintro e w2 ⟨g, rfl, hO2, hg2, hb2⟩; have hown2 := owns_below hown hb2; have SZ : Hid (w.heap.size ≤ w2.heap.size) := Nat.le_trans HB.out.size hb2.size)
          | (at_builtin; refine wpList_append_own _ rfl _ _ 42 rfl w.heap.size 23 i0 (.slice none 0 0) 1 24 Try.underlying42 hi0 hz0 hz1 hz2 rfl (by decide) _ _ _ rfl (hown2.alloc _) ⟨_, 0, none⟩ 1 1 [.slice (some ⟨g, 0, none⟩) n n] rfl rfl (one_new _ _ _) (one_cellv rfl) (by unfold maxLen; omega) (by omega) (by have := SZ.out; simp at *; omega) ?_; intro v' w3 hown' hgrow _))
        have hb3 := below_append ((bt HB.out hb2).alloc SZ.out _) (by have := SZ.out; simp at *; omega) hgrow (hown2.alloc _) (Nat.le_refl _)
        have hal := (Below.refl _ w2).alloc (Nat.le_refl _) (.cells #[.slice (some ⟨g, 0, none⟩) n n] 23)
        have hR3 : Hid (∀ i, k ≤ i → i < k + (t + 1) → ∃ g', (fun i => if i = k + t then .slice (some ⟨g, 0, none⟩) n n else rows i) i = .slice (some ⟨g', 0, none⟩) n n ∧ Ov w3 5 g' (clE (fun c => skk plE oE (fun j => tiE (F i j) (D j c)) k)) n) := fun i h1 h2 => by
          dsimp only
          by_cases e : i = k + t
          · rw [if_pos e, e]; exact ⟨g, rfl, (hO2.below hal).grown (hown2.alloc _) hgrow (by decide)⟩
          · rw [if_neg e]
            obtain ⟨g', e', hO'⟩ := hR.out i h1 (by omega)
            exact ⟨g', e', ((hO'.below hb2).below hal).grown (hown2.alloc _) hgrow (by decide)⟩
        rw [lv_push, Nat.add_assoc k t 1] at hown'
        clear hown hgrow hown2 hO2
        go_roundw
        case rel => exact ⟨t + 1, _, by omega, by go_num, .inr ⟨by omega, hown'⟩, hR3, hb3⟩
        case measure => simp [intOf]; omega
    · obtain rfl : t = m := by omega
      rcases hv with ⟨h0, _⟩ | ⟨_, hown⟩
      · omega
      · go_wp2
        go_ret
        refine ⟨_, rfl, nmC_mk (owns_st1 hown) (fun i hi => ?_) (fun i hi => ?_), hb, own_form hown⟩
        · by_cases e : i < k
          · rw [if_pos e]
            have h := (((hG.out.row i e).below hb).st n n)
            exact St.congr h (fun j _ => by unfold clE; dsimp only; rw [if_pos e])
          · rw [if_neg e]
            obtain ⟨g, eg, hO⟩ := hR.out i (by omega) hi
            rw [eg]
            exact St.congr (hO.st n n) (fun j _ => by unfold clE; dsimp only; rw [if_neg e])
        · by_cases e : i < k
          · rw [if_pos e]; exact ⟨_, rfl⟩
          · rw [if_neg e]
            obtain ⟨g, eg, hO⟩ := hR.out i (by omega) hi
            exact ⟨_, eg⟩
end
section
attribute [local irreducible] Calls el NmE NmC Cd Fac mm skk
set_option maxHeartbeats 8000000 in
set_option maxRecDepth 1000000 in
theorem encode_cap {w : World} {v vD : Value} {k m n : Nat} {F D : Nat → Nat → BitVec 8} (hk : 1 ≤ k) (hm : 1 ≤ m) (hkm : k + m ≤ 255) (hn : n ≤ 140737488355328) (hC : Hid (Cd w v k m F)) (hD : Hid (NmE w vD k (fun _ => n) D)) :
    Calls Try.prog 15 #[v, vD] w fun e w' => ∃ v', e = .returned (.tuple #[v', .int .i64 0]) ∧ NmC w' v' (k + m) n (fun i c => if i < k then D i c else skk plE oE (fun j => tiE (F i j) (D j c)) k) ∧ Below w.heap.size w w' ∧ Capd v' (k + m) := by
  obtain ⟨cb, pF, cF, ev, c1, c2, _, _⟩ := cd_open hC.out
  subst ev
  obtain ⟨pD, cD, eD⟩ := nmE_form hD.out
  subst eD
  have HL := (show Hid _ from NmE.lm hD.out)
  have NO := (show Hid _ from none_ok hC.out hk)
  clear c2
  go_enter Try.func15, Try.ntmps15
  go_wp2_with (first
    | (go_at_call 25; refine NO.out.mono ?_; rintro e w' ⟨rfl, h⟩; obtain rfl := h.symm)
    | (go_at_call 26; refine (fault_ok pD k cD n w (by omega) HL).mono ?_; rintro e w' ⟨rfl, h⟩; obtain rfl := h.symm)
    | (go_at_call 28; refine (copies_core pD k cD n D w (by omega) hn hD).mono ?_; rintro e w1 ⟨B, ρ, rfl, hG, hB, hb1⟩)
    | (go_at_call 27; refine (word_cap k m n B ρ _ F D w1 hk hm hkm hn (Cd.below hC.out hb1) hG).mono ?_; rintro e w2 ⟨v2, rfl, hN2, hb2, hcp⟩))
  go_ret2
  exact ⟨_, rfl, hN2, bt hb1 hb2, hcp⟩
end
theorem encode_c {w : World} {v vD : Value} {k m n : Nat} {F D : Nat → Nat → BitVec 8} (hC : Cd w v k m F) (hF : Fac k F) (hk : 1 ≤ k) (hm : 1 ≤ m) (hkm : k + m ≤ 255) (hn : n ≤ 140737488355328) (hD : NmE w vD k (fun _ => n) D) :
    Calls Try.prog 15 #[v, vD] w fun e w' => ∃ v', e = .returned (.tuple #[v', .int .i64 0]) ∧ NmC w' v' (k + m) n (mm fdE k F D) ∧ Below w.heap.size w w' ∧ Capd v' (k + m) :=
  (encode_cap hk hm hkm hn hC hD).mono fun e w' ⟨v', he, hN, hb, hcp⟩ => ⟨v', he, nmC_congr hN (fun i _ j _ => by
    by_cases e : i < k
    · rw [if_pos e, mm_congr (A' := dl fdE) (B' := D) (fun t ht => hF.id e ht) (fun _ _ => rfl), mm_dl_l e]
    · rw [if_neg e, skk_mm]), hb, hcp⟩
section
attribute [local irreducible] Calls el NmE NmC NrE Cd Fac mm skk tiE plE Jr thr pk pvs gv
set_option maxHeartbeats 8000000 in
set_option maxRecDepth 1000000 in
theorem rebuild_cap {w : World} {v vR : Value} {k m n : Nat} {L : Nat → Nat} {F R : Nat → Nat → BitVec 8} (hk : 1 ≤ k) (hm : 1 ≤ m) (hkm : k + m ≤ 255) (hn : n ≤ 140737488355328) (hC : Hid (Cd w v k m F)) (hF : Hid (Fac k F)) (hR : Hid (NmE w vR (k + m) L R)) (hL : Hid (∀ i, i < k + m → 0 < L i → L i = n)) (hq : k ≤ (thr L (k + m)).length) :
    Calls Try.prog 34 #[v, vR] w fun e w' => ∃ v' Z, e = .returned (.tuple #[v', .int .i64 0]) ∧ (∀ i, i < k → ∀ j, j < k → mm fdE k Z (fun i j => F (pk L (k + m) i) j) i j = dl fdE i j) ∧ NmC w' v' (k + m) n (fun i c => if i < k then skk plE oE (fun t => tiE (Z i t) (R (pk L (k + m) t) c)) k else skk plE oE (fun j => tiE (F i j) (skk plE oE (fun t => tiE (Z j t) (R (pk L (k + m) t) c)) k)) k) ∧ Below w.heap.size w w' ∧ Capd v' (k + m) := by
  obtain ⟨cb, pF, cF, ev, c1, c2, _, _⟩ := cd_open hC.out
  subst ev
  obtain ⟨pR, cR, eR⟩ := nmE_form hR.out
  subst eR
  have NO := (show Hid _ from none_ok hC.out hk)
  have PR := (show Hid _ from present_core pR (k + m) cR L R w hkm hR)
  have hlen : (thr L (k + m)).length ≤ k + m := thr_len _ _
  obtain ⟨q, hqe⟩ : ∃ q, q = (thr L (k + m)).length := ⟨_, rfl⟩
  have HQ : Hid ((thr L (k + m)).length = q) := hqe.symm
  have PM : Hid (∀ t, t < q → pk L (k + m) t < k + m) := fun t ht => (pk_mem (by omega)).1
  have PN : Hid (∀ i, i < q → ∀ j, j < q → i ≠ j → pk L (k + m) i ≠ pk L (k + m) j) := fun i hi j hj => pk_ne (by omega) (by omega)
  rw [← hqe] at hq hlen
  clear hqe
  have j0 : ((k : Int) + (m : Int) != (k : Int) + (m : Int)) = false := by simp
  have j1 : ¬ (q : Int) < (k : Int) := by omega
  have j2 : (0 : Int) ≤ (k : Int) := by omega
  go_enter Try.func34, Try.ntmps34
  go_wp2_with (first
    | (go_at_call 25; refine NO.out.mono ?_; rintro e w' ⟨rfl, h⟩; obtain rfl := h.symm)
    | (go_at_call 47; refine PR.out.mono ?_; rintro e w1 ⟨v1, v2, rows, rfl, ho1, ho2, hrw, hb1⟩; have c11 := cell_below c1 hb1; have HJ1 := (show Hid _ from pls_jr ho1); have HT1 := (show Hid _ from there_nm ho2 hrw hb1 hL.out); obtain ⟨p1, k1, e1, hc1⟩ := own_form ho1; obtain ⟨p2, k2, e2, hc2⟩ := own_form ho2; rw [HQ.out] at e1 e2 hc1 hc2; rw [HQ.out] at HJ1 HT1; subst e1 e2; have x1 : (k : Int) ≤ (k1 : Int) := (by omega); have HLM := (show Hid _ from NmE.lm HT1.out); have JC := (show Hid _ from jr_cut HJ1.out hq); have HCd := (show Hid _ from Cd.below hC.out hb1); clear ho1 ho2)
    | (go_at_call 44; refine (even_ok p2 q k2 n w1 (by omega) HLM).mono ?_; rintro e w' ⟨rfl, h⟩; obtain rfl := h.symm)
    | (go_at_call 48; refine (data_core (pl := pk L (k + m)) hk hm hkm hn hq (by omega) HCd hF JC (fun i hi => PM.out i (by omega)) (fun i hi j hj => PN.out i (by omega) j (by omega)) HT1).mono ?_; rintro e w2 ⟨B, ρ, Z, rfl, hG, hz, hb2⟩)
    | (go_at_call 27; refine (word_cap k m n B ρ _ F _ w2 hk hm hkm hn (Cd.below HCd.out hb2) hG).mono ?_; rintro e w3 ⟨v3, rfl, hN3, hb3, hcp⟩))
  go_ret2
  exact ⟨_, Z, rfl, hz, hN3, bt (bt hb1 hb2) hb3, hcp⟩
end
theorem rebuild_c {w : World} {v vR : Value} {k m n : Nat} {L : Nat → Nat} {F R D : Nat → Nat → BitVec 8} (hk : 1 ≤ k) (hm : 1 ≤ m) (hkm : k + m ≤ 255) (hn : n ≤ 140737488355328) (hC : Cd w v k m F) (hF : Fac k F) (hR : NmE w vR (k + m) L R) (hL : ∀ i, i < k + m → 0 < L i → L i = n) (hq : k ≤ (thr L (k + m)).length) (hD : ∀ i, i < k + m → 0 < L i → ∀ c, c < n → R i c = mm fdE k F D i c) :
    Calls Try.prog 34 #[v, vR] w fun e w' => ∃ v', e = .returned (.tuple #[v', .int .i64 0]) ∧ NmC w' v' (k + m) n (mm fdE k F D) ∧ Below w.heap.size w w' ∧ Capd v' (k + m) := by
  refine (rebuild_cap hk hm hkm hn hC hF hR hL hq).mono fun e w' ⟨v', Z, he, hz, hN, hb, hcp⟩ => ⟨v', he, nmC_congr hN (fun i _ c hc => ?_), hb, hcp⟩
  have key : ∀ j, j < k → skk plE oE (fun t => tiE (Z j t) (R (pk L (k + m) t) c)) k = D j c := fun j hj => by
    rw [skk_mm (P := Z) (Q := fun t c => R (pk L (k + m) t) c) (i := j) (j := c), mm_congr (A' := Z) (B' := mm fdE k (fun i j => F (pk L (k + m) i) j) D) (fun _ _ => rfl) (fun t ht => by
      have hp := pk_mem (L := L) (r := k + m) (t := t) (by omega)
      exact hD _ hp.1 hp.2 c hc), ← mm_assoc, mm_congr (A' := dl fdE) (B' := D) (fun t ht => hz j hj t ht) (fun _ _ => rfl), mm_dl_l hj]
  by_cases e : i < k
  · rw [if_pos e, key i e, mm_congr (A' := dl fdE) (B' := D) (fun t ht => hF.id e ht) (fun _ _ => rfl), mm_dl_l e]
  · rw [if_neg e, skk_mm (P := F) (Q := fun j c => skk plE oE (fun t => tiE (Z j t) (R (pk L (k + m) t) c)) k) (i := i) (j := c)]
    exact mm_congr (fun _ _ => rfl) (fun t ht => key t ht)
end Go.Proofs.Ytgokkppojhokbaa
