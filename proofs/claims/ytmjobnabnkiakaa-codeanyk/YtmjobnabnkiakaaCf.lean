/-
  The code's words: 'copies', 'even', 'rowsFault', 'none', 'word', 'Encode'.
-/
import Derived.Test.YtmjobnabnkiakaaCe
import Derived.Deep.RegionHeld3
import Derived.ArgAppend
namespace Go.Proofs.Ytmjobnabnkiakaa
open Go.RowKit
theorem infoY : (Try.prog.info? 37).map (fun i => (i.zero, i.size, i.bytes)) = some (some (.slice none 0 0), 1, 24) := by kernel_rfl
theorem makeY (n : Nat) (hn : n ≤ 1000) (w : World) : (Instr.makeSlice 27 (.int .i64 (n : Int)) (.int .i64 (n : Int))).run Try.prog w = .ok (.slice (some ⟨w.heap.size, 0, none⟩) n n) (w.alloc (.cells (Array.replicate (n * 1) (.slice none 0 0)) 37)) :=
  make_any Try.underlying27 infoY rfl (by decide) n (by omega) (by omega) w
section
attribute [local irreducible] Calls
set_option maxHeartbeats 4000000 in
set_option maxRecDepth 1000000 in
theorem even_ok (p : Option Addr) (r c n : Nat) (w : World) (hr : r ≤ 140737488355328) (L : Hid (Lm w (.slice p r c) r (fun _ => n))) : Calls Try.prog 39 #[.slice p r c] w fun e w' => e = .returned (.bool true) ∧ w' = w := by
  have e1 : ((n : Int) != (n : Int)) = false := by simp
  go_enter Try.func39, Try.ntmps39
  go_wp2
  go_loop [7] (fun i => ∃ k : Nat, k ≤ r ∧ i = .int .i64 k) (fun i => r - (intOf i).toNat)
  case atStart => exact ⟨0, Nat.zero_le _, rfl⟩
  case round =>
    obtain ⟨k, hk, rfl⟩ := hrel
    by_cases hlt : k < r
    · have j1 : (k : Int) < (r : Int) := by omega
      have j0 : (0 : Int) < (r : Int) := by omega
      obtain ⟨b, o, c', pp, cc, e, hc⟩ := Lm.cells L.out (by omega)
      injection e with e _ _
      subst e
      have g1 := hc k hlt
      have g0 : w.cell? ⟨b, o, none⟩ = some (.slice (pp 0) n (cc 0)) := hc 0 (by omega)
      clear hc
      go_wp2
      go_round
      case rel => exact ⟨k + 1, by omega, by go_num⟩
      case measure => simp [intOf]; omega
    · go_wp2
      go_ret
      exact ⟨rfl, rfl⟩
set_option maxHeartbeats 4000000 in
set_option maxRecDepth 1000000 in
theorem fault_ok (p : Option Addr) (r c n : Nat) (w : World) (hr : r ≤ 140737488355328) (L : Hid (Lm w (.slice p r c) r (fun _ => n))) : Calls Try.prog 35 #[.slice p r c, .int .i64 (r : Int)] w fun e w' => e = .returned (.int .i64 0) ∧ w' = w := by
  have e1 : ((r : Int) != (r : Int)) = false := by simp
  go_enter Try.func35, Try.ntmps35
  go_wp2_with (go_at_call 39; refine (even_ok p r c n w hr L).mono ?_; rintro e w' ⟨rfl, h⟩; obtain rfl := h.symm)
  go_ret
  exact ⟨rfl, rfl⟩
set_option maxHeartbeats 4000000 in
set_option maxRecDepth 1000000 in
theorem none_ok {w : World} {v : Value} {k m : Nat} {F : Nat → Nat → BitVec 8} (h : Cd w v k m F) (hk : 1 ≤ k) : Calls Try.prog 34 #[v] w fun e w' => e = .returned (.bool false) ∧ w' = w := by
  obtain ⟨cb, pF, cF, rfl, h1, h2, h4, h3⟩ := h
  have e1 : ((k : Int) == 0) = false := by simp; omega
  clear h2 h3 h4
  go_enter Try.func34, Try.ntmps34
  go_wp2
  go_ret
  exact ⟨rfl, rfl⟩
end
section
attribute [local irreducible] Calls el Ov clE NmE
set_option maxHeartbeats 8000000 in
set_option maxRecDepth 1000000 in
theorem copies_core (p : Option Addr) (r c n : Nat) (D : Nat → Nat → BitVec 8) (w : World) (hr : r ≤ 1000) (hn : n ≤ 140737488355328) (ND : Hid (NmE w (.slice p r c) r (fun _ => n) D)) :
    Calls Try.prog 37 #[.slice p r c] w fun e w' => ∃ B ρ, e = .returned (.slice (some ⟨B, 0, none⟩) r r) ∧ Gr w' 37 5 B r n n ρ (fun i => clE (D i)) ∧ w.heap.size ≤ B ∧ Below w.heap.size w w' := by
  have hm1 := makeY r (by omega)
  rw [Nat.mul_one] at hm1
  have HO0 : Hid (Ov (w.alloc (.cells (Array.replicate r (.slice none 0 0)) 37)) 37 w.heap.size (fun i => if i < 0 then .slice (some ⟨0, 0, none⟩) n n else .slice none 0 0) r) := (ov_new w 37 (.slice none 0 0) r).congr (fun i _ => by rw [if_neg (by omega)])
  have HB0 : Hid (Below w.heap.size w (w.alloc (.cells (Array.replicate r (.slice none 0 0)) 37))) := (Below.refl _ _).alloc (Nat.le_refl _) _
  have HS0 : Hid (w.heap.size < (w.alloc (.cells (Array.replicate r (.slice none 0 0)) 37)).heap.size) := by show _ < _; simp
  go_enter Try.func37, Try.ntmps37
  go_wp2
  clear hm1
  have hm2 := make_bytes n hn
  go_loopw [11] (fun i wr => ∃ (k : Nat) (ρ : Nat → Nat), k ≤ r ∧ i = .int .i64 k ∧ Ov wr 37 w.heap.size (fun i => if i < k then .slice (some ⟨ρ i, 0, none⟩) n n else .slice none 0 0) r ∧ Hid (∀ i, i < k → Ov wr 5 (ρ i) (clE (D i)) n) ∧ Hid (∀ i, i < k → w.heap.size < ρ i ∧ ρ i < wr.heap.size) ∧ Hid (∀ i, i < k → ∀ j, j < k → ρ i = ρ j → i = j) ∧ Hid (w.heap.size < wr.heap.size) ∧ Below w.heap.size w wr) (fun i _ => r - (intOf i).toNat)
  case atStart => exact ⟨0, fun _ => 0, Nat.zero_le _, rfl, HO0.out, fun i hi => by omega, fun i hi => by omega, fun i hi => by omega, HS0, HB0.out⟩
  case round =>
    clear HO0 HB0 HS0
    obtain ⟨k, ρ, hk, rfl, hO, hR, hP, hI, hS, hb⟩ := hrel
    by_cases hlt : k < r
    · have j1 : (k : Int) < (r : Int) := by omega
      obtain ⟨b2, o2, rows, e2, hc2, hrw⟩ := nm_at ND.out (by omega)
      subst e2
      obtain ⟨pr, cr, er, _⟩ := nr_un (hrw k hlt)
      have g0 := hc2 k hlt
      rw [er] at g0
      have g1 := cell_below g0 hb
      have B1 := (Below.refl wr.heap.size wr).alloc (Nat.le_refl _) (.cells (Array.replicate n (.int .u8 0)) 5)
      have hO1 := hO.below B1
      have g3 := hO1.cell hlt
      have g4 := hO1.frozen k
      have hsz := hS.out
      have hsz0 := hb.size
      have B2 := (Below.refl (wr.setCell ⟨w.heap.size, k, none⟩ (.slice (some ⟨wr.heap.size, 0, none⟩) n n)).heap.size (wr.setCell ⟨w.heap.size, k, none⟩ (.slice (some ⟨wr.heap.size, 0, none⟩) n n))).alloc (Nat.le_refl _) (.cells (Array.replicate n (.int .u8 0)) 5)
      have HO2 := (show Hid _ from (hO.set hlt (.slice (some ⟨wr.heap.size, 0, none⟩) n n)).below B2)
      have HN0 : Hid (Ov ((wr.setCell ⟨w.heap.size, k, none⟩ (.slice (some ⟨wr.heap.size, 0, none⟩) n n)).alloc (.cells (Array.replicate n (.int .u8 0)) 5)) 5 wr.heap.size (fun _ => .int .u8 0) n) := by
        have h := ov_new (wr.setCell ⟨w.heap.size, k, none⟩ (.slice (some ⟨wr.heap.size, 0, none⟩) n n)) 5 (.int .u8 0) n
        rw [← size_set] at h; exact h
      have HBk : Hid (Below w.heap.size w ((wr.setCell ⟨w.heap.size, k, none⟩ (.slice (some ⟨wr.heap.size, 0, none⟩) n n)).alloc (.cells (Array.replicate n (.int .u8 0)) 5))) := (hb.setCell (Nat.le_refl _) _).alloc (by rw [← size_set]; exact hb.size) _
      have HSV : Hid (Sv ((wr.setCell ⟨w.heap.size, k, none⟩ (.slice (some ⟨wr.heap.size, 0, none⟩) n n)).alloc (.cells (Array.replicate n (.int .u8 0)) 5)) (.slice pr n cr) n (clE (D k)) n) := by
        have h := NrE.below (hrw k hlt) HBk.out
        rw [er] at h
        exact h
      have HRk : Hid (∀ i, i < k → Ov ((wr.setCell ⟨w.heap.size, k, none⟩ (.slice (some ⟨wr.heap.size, 0, none⟩) n n)).alloc (.cells (Array.replicate n (.int .u8 0)) 5)) 5 (ρ i) (clE (D i)) n) := fun i hi => ((hR.out i hi).other (p := ⟨w.heap.size, k, none⟩) (by show ρ i ≠ w.heap.size; have := (hP.out i hi).1; omega) rfl).below B2
      have gx : ((wr.setCell ⟨w.heap.size, k, none⟩ (.slice (some ⟨wr.heap.size, 0, none⟩) n n)).alloc (.cells (Array.replicate n (.int .u8 0)) 5)).cell? ⟨w.heap.size, k, none⟩ = some (.slice (some ⟨wr.heap.size, 0, none⟩) n n) := by
        have h := HO2.out.cell hlt
        rw [if_pos rfl] at h; exact h
      have HSZ : Hid (wr.heap.size < ((wr.setCell ⟨w.heap.size, k, none⟩ (.slice (some ⟨wr.heap.size, 0, none⟩) n n)).alloc (.cells (Array.replicate n (.int .u8 0)) 5)).heap.size) := by show _ < _; simp
      clear hc2 hrw er hO hO1 hb hR B1 B2
      go_wp2_with (refine wpList_copy_all rfl _ _ 37 37 rfl 5 Try.underlying37 1 (by kernel_rfl) wr.heap.size n n _ _ rfl rfl 5 _ (clE (D k)) (by omega) (by omega) HN0.out HSV.out (clE_one _) ?_; intro w2 hO2 hB2)
      have hsz2 := hB2.sz
      have hsz3 := HSZ.out
      go_roundw
      case rel =>
        refine ⟨k + 1, fun i => if i = k then wr.heap.size else ρ i, by omega, by go_num, (hB2.ov HO2.out (by omega)).congr (fun i _ => ?_), fun i hi => ?_, fun i hi => ?_, fun i hi j hj => ?_, ?_, But.from HBk.out hB2 (by omega)⟩
        · dsimp only
          by_cases e : i = k
          · rw [if_pos e, if_pos (by omega), if_pos e]
          · rw [if_neg e]
            by_cases e2 : i < k
            · rw [if_pos e2, if_pos (by omega), if_neg e]
            · rw [if_neg e2, if_neg (by omega)]
        · show Ov w2 _ (if i = k then wr.heap.size else ρ i) _ _
          by_cases e : i = k
          · subst e; rw [if_pos rfl]; exact hO2
          · rw [if_neg e]; exact hB2.ov (HRk.out i (by omega)) (by have := (hP.out i (by omega)).2; omega)
        · show w.heap.size < (if i = k then wr.heap.size else ρ i) ∧ (if i = k then wr.heap.size else ρ i) < w2.heap.size
          by_cases e : i = k
          · rw [if_pos e]; omega
          · rw [if_neg e]; have := hP.out i (by omega); omega
        · show (if i = k then wr.heap.size else ρ i) = (if j = k then wr.heap.size else ρ j) → i = j
          by_cases e : i = k
          · rw [if_pos e]
            by_cases e2 : j = k
            · intro _; omega
            · rw [if_neg e2]; have := hP.out j (by omega); intro; omega
          · rw [if_neg e]
            by_cases e2 : j = k
            · rw [if_pos e2]; have := hP.out i (by omega); intro; omega
            · rw [if_neg e2]; exact hI.out i (by omega) j (by omega)
        · show _ < _
          omega
      case measure => simp [intOf]; omega
    · obtain rfl : k = r := by omega
      go_wp2
      go_ret
      exact ⟨_, ρ, rfl, ⟨hO.congr (fun i hi => by rw [if_pos hi]), hR.out, fun i hi => by have := hP.out i hi; omega, hI.out⟩, Nat.le_refl _, hb⟩
end
theorem gr_cells {w w' : World} {B r n : Nat} {ρ : Nat → Nat} {D : Nat → Nat → BitVec 8} (h : Gr w 37 5 B r n n ρ (fun i => clE (D i))) (hb : Below w.heap.size w w') : ∀ j u, (lv (fun i => Value.slice (some ⟨ρ i, 0, none⟩) n n) r)[j]? = some u → w'.cell? ((⟨B, 0, none⟩ : Addr).add j) = some u := fun j u hj => by
  have hjn : j < r := by
    rcases Nat.lt_or_ge j r with h | h
    · exact h
    · rw [List.getElem?_eq_none (by rw [lv_len]; exact h)] at hj; cases hj
  rw [lv_at _ r j hjn] at hj
  rw [add_pl, Nat.zero_add, cell_below (h.out.cell hjn) hb]; exact hj
theorem nmE_mk {w : World} {v : Value} {r n : Nat} {N : Nat → Nat → BitVec 8} {rows : Nat → Value} (h1 : Sv w v r rows r) (h2 : ∀ i, i < r → Sv w (rows i) n (clE (N i)) n) : NmE w v r (fun _ => n) N := ⟨rows, h1, h2⟩
theorem owns_base {w : World} {b b' : Nat} {t : TypeId} {k n : Nat} {v : Value} {xs : List Value} (h : w.ownsRow b t k v n xs) (hb : b' ≤ b) : w.ownsRow b' t k v n xs := by
  refine ⟨h.1, ?_⟩
  rcases h.2 with h1 | ⟨g, cap, cur, hv, hg, hr⟩
  · exact .inl h1
  · exact .inr ⟨g, cap, cur, hv, Nat.le_trans hb hg, hr⟩
theorem grown_none {w w' : World} (h : w.grownBy w' none) : Below w.heap.size w w' := (Below.refl _ _).grown h (Nat.le_refl _) (fun k hk => by cases hk)
theorem lv_push (f g : Nat → Value) (k t : Nat) (x : Value) : lv (fun i => if i < k then f i else g i) (k + t) ++ [x] = lv (fun i => if i < k then f i else (fun i => if i = k + t then x else g i) i) (k + (t + 1)) := by
  rw [← Nat.add_assoc, lv_succ, if_neg (by omega)]
  dsimp only
  rw [if_pos rfl]
  exact congrArg (· ++ _) (lv_congr (fun i hi => by
    by_cases e : i < k
    · rw [if_pos e, if_pos e]
    · rw [if_neg e, if_neg e, if_neg (by omega)]))
/-- Rows of bytes of one's own read so. -/
theorem gr_nm {w : World} {B r n : Nat} {ρ : Nat → Nat} {D : Nat → Nat → BitVec 8} (h : Gr w 37 5 B r n n ρ (fun i => clE (D i))) : NmE w (.slice (some ⟨B, 0, none⟩) r r) r (fun _ => n) D :=
  ⟨_, St.sv (h.out.st r r), fun i hi => St.sv ((h.row i hi).st n n)⟩
theorem own_form {w : World} {base : Nat} {t : TypeId} {k n : Nat} {v : Value} {xs : List Value} (h : w.ownsRow base t k v n xs) : ∃ p c, v = .slice p n c ∧ n ≤ c := by
  rcases h.2 with ⟨hv, h0⟩ | ⟨g, cap, c, hv, _, _, hc, _⟩
  · subst h0; exact ⟨_, _, hv, Nat.le_refl _⟩
  · exact ⟨_, _, hv, hc⟩
/-- There is room for its length. -/
def Capd (v : Value) (r : Nat) : Prop := ∃ p c, v = .slice p r c ∧ r ≤ c
section
attribute [local irreducible] Calls el Ov clE NmE NrE skk tiE plE lv
set_option maxHeartbeats 8000000 in
set_option maxRecDepth 1000000 in
theorem word_core (k m n B : Nat) (ρ : Nat → Nat) (v : Value) (F D : Nat → Nat → BitVec 8) (w : World) (hk : 1 ≤ k) (hm : 1 ≤ m) (hkm : k + m ≤ 255) (hn : n ≤ 140737488355328) (hC : Cd w v k m F) (hG : Hid (Gr w 37 5 B k n n ρ (fun i => clE (D i)))) :
    Calls Try.prog 36 #[v, .slice (some ⟨B, 0, none⟩) k k] w fun e w' => ∃ v', e = .returned v' ∧ NmE w' v' (k + m) (fun _ => n) (fun i c => if i < k then D i c else skk plE oE (fun j => tiE (F i j) (D j c)) k) ∧ Below w.heap.size w w' ∧ Capd v' (k + m) := by
  obtain ⟨cb, pF, cF, rfl, c1, c2, hcap, hF⟩ := hC
  obtain ⟨bF, oF, rowsF, e2, hcF, hrF⟩ := nm_at hF (by omega)
  subst e2
  have HCF : Hid (∀ i, i < k + m → w.cell? ⟨bF, oF + i, none⟩ = some (rowsF i)) := hcF
  have HRF : Hid (∀ i, i < k + m → NrE w (rowsF i) k (F i)) := hrF
  have j1 : (k : Int) ≤ (k : Int) + (m : Int) := by omega
  have j2 : (0 : Int) ≤ (k : Int) := by omega
  have j3 : (k : Int) ≤ ((k + m : Nat) : Int) := by omega
  have kn : ¬ m = 0 := by omega
  have kn2 : ¬ k = 0 := by omega
  have kn3 : ¬ cF = k := by omega
  obtain ⟨i0, hi0, hz0, hz1, hz2⟩ := info_parts infoY
  have HND := (show Hid _ from gr_nm hG.out)
  clear hF hcF hrF
  go_enter Try.func36, Try.ntmps36
  go_wp2
  go_quiet (fail)
  go_wp2
  go_loopw [5, 19] (fun v i wr => ∃ (t : Nat) (rows : Nat → Value), t ≤ m ∧ i = .int .i64 t ∧ ((t = 0 ∧ v = .slice (some ⟨B, 0, none⟩) k k) ∨ (0 < t ∧ wr.ownsRow w.heap.size 37 1 v (k + t) (lv (fun i => if i < k then .slice (some ⟨ρ i, 0, none⟩) n n else rows i) (k + t)))) ∧ Hid (∀ i, k ≤ i → i < k + t → ∃ g, rows i = .slice (some ⟨g, 0, none⟩) n n ∧ Ov wr 5 g (clE (fun c => skk plE oE (fun j => tiE (F i j) (D j c)) k)) n) ∧ Below w.heap.size w wr) (fun _ i _ => m - (intOf i).toNat)
  case atStart => exact ⟨0, fun _ => .bool false, Nat.zero_le _, rfl, .inl ⟨rfl, rfl⟩, fun i h1 h2 => by omega, below_drewN (Below.refl _ _) _⟩
  case round =>
    obtain ⟨t, rows, ht, rfl, hv, hR, hb⟩ := hrel
    by_cases hlt : t < m
    · have q1 : (t : Int) < (m : Int) := by omega
      obtain ⟨pr, cr, er, hra⟩ := nr_un (HRF.out (k + t) (by omega))
      have g0 : w.cell? ⟨bF, oF + k + t, none⟩ = some (.slice pr k cr) := by have h := HCF.out (k + t) (by omega); rw [er] at h; rw [Nat.add_assoc]; exact h
      have g1 := cell_below g0 hb
      have SU := (show Hid _ from codeSum_core pr (some ⟨B, 0, none⟩) k cr k k n (F (k + t)) D wr (Nat.le_refl _) (by omega) (by omega) hn (fun h0 => by obtain ⟨b, o, e, h⟩ := hra h0; exact ⟨b, o, e, fun i hi => cell_below (h i hi) hb⟩) (NmE.below HND.out hb))
      have HB := (show Hid _ from hb)
      have HV := (show Hid _ from hv)
      clear er hra hb hv
      rcases HV.out with ⟨ht0, hv0⟩ | ⟨htp, hown⟩
      · subst ht0 hv0
        rw [Nat.add_zero] at g1
        go_wp2_with (first
          | (go_at_call 42; refine SU.out.mono ?_; rintro e w2 ⟨g, rfl, hO2, hg2, hb2⟩; have hD2 := (show Hid _ from gr_cells hG.out (bt HB.out hb2)))
          | (at_builtin; refine wpList_append_grows _ rfl _ _ 27 rfl 37 i0 (.slice none 0 0) 1 24 Try.underlying27 hi0 hz0 hz1 hz2 rfl (by decide) (some ⟨B, 0, none⟩) k k (lv (fun i => .slice (some ⟨ρ i, 0, none⟩) n n) k) rfl (fun h => by cases h) (by rw [lv_len, Nat.mul_one]) (fun b hb' j u hj => by cases hb'; exact cell_below (hD2.out j u hj) ((Below.refl _ _).alloc (Nat.le_refl _) _)) ⟨_, 0, none⟩ 1 1 [.slice (some ⟨g, 0, none⟩) n n] rfl rfl (one_new _ _ _) (one_cellv rfl) (by omega) (by unfold maxLen; omega) (by omega) ?_; intro v' w3 hown' hgrow))
        have hS2 : Ov w3 5 g (clE (fun c => skk plE oE (fun j => tiE (F (k + 0) j) (D j c)) k)) n := (hO2.below ((Below.refl _ _).alloc (Nat.le_refl _) _)).below (grown_none hgrow)
        have hb3 := bt (bt HB.out hb2) (bt ((Below.refl _ w2).alloc (Nat.le_refl _) _) (grown_none hgrow))
        have e0 := lv_push (fun i => .slice (some ⟨ρ i, 0, none⟩) n n) rows k 0 (.slice (some ⟨g, 0, none⟩) n n)
        rw [Nat.add_zero, lv_congr (g := fun i => .slice (some ⟨ρ i, 0, none⟩) n n) (fun i hi => by rw [if_pos hi])] at e0
        rw [e0] at hown'
        have hown2 := owns_base (b' := w.heap.size) hown' (by have := HB.out.size; have := hb2.size; simp; omega)
        clear hown' hgrow
        go_roundw
        case rel => exact ⟨0 + 1, fun i => if i = k + 0 then .slice (some ⟨g, 0, none⟩) n n else rows i, by omega, by go_num, .inr ⟨by omega, hown2⟩, fun i h1 h2 => ⟨g, by show (if i = k + 0 then _ else _) = _; rw [if_pos (by omega)], by rw [show i = k + 0 by omega]; exact hS2⟩, hb3⟩
        case measure => simp [intOf]; omega
      · go_wp2_with (first
          | (go_at_call 42; refine SU.out.mono ?_; rintro e w2 ⟨g, rfl, hO2, hg2, hb2⟩; have hown2 := owns_below hown hb2; have SZ : Hid (w.heap.size ≤ w2.heap.size) := Nat.le_trans HB.out.size hb2.size)
          | (at_builtin; refine wpList_append_own _ rfl _ _ 27 rfl w.heap.size 37 i0 (.slice none 0 0) 1 24 Try.underlying27 hi0 hz0 hz1 hz2 rfl (by decide) _ _ _ rfl (hown2.alloc _) ⟨_, 0, none⟩ 1 1 [.slice (some ⟨g, 0, none⟩) n n] rfl rfl (one_new _ _ _) (one_cellv rfl) (by unfold maxLen; omega) (by omega) (by have := SZ.out; simp at *; omega) ?_; intro v' w3 hown' hgrow _))
        have hb3 := below_append ((bt HB.out hb2).alloc SZ.out _) (by have := SZ.out; simp at *; omega) hgrow (hown2.alloc _) (Nat.le_refl _)
        have hal := (Below.refl _ w2).alloc (Nat.le_refl _) (.cells #[.slice (some ⟨g, 0, none⟩) n n] 37)
        have hR3 : Hid (∀ i, k ≤ i → i < k + (t + 1) → ∃ g', (fun i => if i = k + t then .slice (some ⟨g, 0, none⟩) n n else rows i) i = .slice (some ⟨g', 0, none⟩) n n ∧ Ov w3 5 g' (clE (fun c => skk plE oE (fun j => tiE (F i j) (D j c)) k)) n) := fun i h1 h2 => by
          dsimp only
          by_cases e : i = k + t
          · rw [if_pos e, e]; exact ⟨g, rfl, (hO2.below hal).grown (hown2.alloc _) hgrow (by decide)⟩
          · rw [if_neg e]
            obtain ⟨g', e', hO'⟩ := hR.out i h1 (by omega)
            exact ⟨g', e', ((hO'.below hb2).below hal).grown (hown2.alloc _) hgrow (by decide)⟩
        rw [lv_push, Nat.add_assoc k t 1] at hown'
        clear hown hgrow hown2 hO2
        go_roundw
        case rel => exact ⟨t + 1, _, by omega, by go_num, .inr ⟨by omega, hown'⟩, hR3, hb3⟩
        case measure => simp [intOf]; omega
    · obtain rfl : t = m := by omega
      rcases hv with ⟨h0, _⟩ | ⟨_, hown⟩
      · omega
      · go_wp2
        go_ret
        refine ⟨_, rfl, nmE_mk (St.sv (owns_st1 hown)) (fun i hi => ?_), hb, own_form hown⟩
        by_cases e : i < k
        · rw [if_pos e]
          have h := St.sv (((hG.out.row i e).below hb).st n n)
          exact Sv.congr h (fun j _ => by unfold clE; dsimp only; rw [if_pos e])
        · rw [if_neg e]
          obtain ⟨g, eg, hO⟩ := hR.out i (by omega) hi
          rw [eg]
          exact Sv.congr (St.sv (hO.st n n)) (fun j _ => by unfold clE; dsimp only; rw [if_neg e])
end
end Go.Proofs.Ytmjobnabnkiakaa
