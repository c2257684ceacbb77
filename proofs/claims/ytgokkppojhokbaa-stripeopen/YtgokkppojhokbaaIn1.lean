/-
  'widened', 'unit', 'squareFault' over the field of 256.
-/
import Derived.Test.YtgokkppojhokbaaMr
import Derived.Test.YtgokkppojhokbaaKf
import Derived.Test.YtgokkppojhokbaaFp
import Derived.Test.YtgokkppojhokbaaPow
import Derived.Deep.RegionHeld3
import Derived.Test.YtgokkppojhokbaaRd1
namespace Go.Proofs.Ytgokkppojhokbaa
open Go.RowKit
theorem run_copy_pre {P : Program} (w : World) (dT sT ty elem : TypeId) (g dLen sLen dCap : Nat) (a : Addr) (sCap : Nat) (cur : Array Value) (t : TypeId) (cs : List Value)
    (hu : P.underlying dT = some (.slice elem)) (hs : (P.info? elem).map (·.size) = some 1)
    (hg : w.heap[g]? = some (.cells cur t (0, 0))) (hn : cs.length = sLen) (hle : sLen ≤ dLen)
    (hsrc : ∀ j v, cs[j]? = some v → w.cell? (a.add j) = some v) (hfit : cs.length ≤ cur.size) (h1 : ∀ v ∈ cs, v.oneCell' = true) :
    (Builtin.copy_ #[dT, sT] ty #[.slice (some ⟨g, 0, none⟩) dLen dCap, .slice (some a) sLen sCap]).run P w =
      .ok (goInt sLen) (w.setRow g (cs ++ cur.toList.drop cs.length).toArray) := by
  have hm : Nat.min sLen dLen = sLen := Nat.min_eq_left hle
  have h := run_copy_row (P := P) w dT sT ty elem g 0 dLen dCap a sLen sCap cur t cs hu hs hg (by rw [hm, hn]) hsrc (by omega) h1
  rw [hn] at h
  rw [h, hn]; simp
theorem oper_copy_pre {P : Program} {o : Oper} {a : Act} {w : World} {K : Act → World → Prop} {Q : Exit → Act → World → Prop} (d s : Operand) (dT sT : TypeId)
    (ho : o.op = .call { callee := .builtin .copy, args := #[d, s], argTypes := #[dT, sT] }) (elem : TypeId) (hu : P.underlying dT = some (.slice elem)) (hsz : (P.info? elem).map (·.size) = some 1)
    (g l n dCap : Nat) (v : Value) (hd : a.eval d = .slice (some ⟨g, 0, none⟩) l dCap) (hs : a.eval s = v) (t : TypeId) (f0 f : Nat → Value) (hle : n ≤ l) (hO : Ov w t g f0 l) (hv : Sv w v n f n) (h1 : ∀ i, (f i).oneCell' = true)
    (h : ∀ w', Ov w' t g (fun i => if i < n then f i else f0 i) l → But g w w' → K (a.put o.dst (goInt n)) w') : Oper.wp P o a w K Q := by
  obtain ⟨p, c, rfl, hv⟩ := hv
  by_cases h0 : n = 0
  · subst h0
    have hrun := run_copy_none (P := P) w dT sT o.type elem (some ⟨g, 0, none⟩) p l dCap 0 c hu hsz (by simp)
    unfold Oper.wp
    simp [execOp, ho, resolve, invoke, builtin, hd, hs, hrun, Result.andThen]
    exact h w (hO.congr (fun i _ => by rw [if_neg (by omega)])) (But.refl _ _)
  · rcases hv with hv | ⟨b, off, rfl, hc⟩
    · omega
    · have hrun := run_copy_pre (P := P) w dT sT o.type elem g l n dCap ⟨b, off, none⟩ c (rv f0 l) t (lv f n) hu hsz hO (by rw [lv_len]) hle
        (fun j u hj => by
          have hjn : j < n := by
            rcases Nat.lt_or_ge j n with h | h
            · exact h
            · rw [List.getElem?_eq_none (by rw [lv_len]; exact h)] at hj; cases hj
          rw [lv_at f n j hjn] at hj
          injection hj with hj
          rw [add_pl, hc j hjn, hj])
        (by rw [lv_len, rv_size]; exact hle) (fun u hu => by
          unfold lv at hu
          obtain ⟨i, _, rfl⟩ := List.mem_map.1 hu
          exact h1 i)
      unfold Oper.wp
      simp [execOp, ho, resolve, invoke, builtin, hd, hs, hrun, Result.andThen]
      refine h _ ?_ (But.setRow _)
      unfold Ov
      rw [setRow_heap w g _ _ t _ hO, lv_len, rv_toList]
      congr 2
      unfold rv
      congr 1
      apply List.ext_getElem?
      intro i
      by_cases hi : i < n
      · rw [List.getElem?_append_left (by rw [lv_len]; exact hi), lv_at f n i hi, List.getElem?_map, List.getElem?_range (by omega)]
        simp [hi]
      · rw [List.getElem?_append_right (by rw [lv_len]; omega), lv_len, List.getElem?_drop, show n + (i - n) = i by omega, List.getElem?_map, List.getElem?_map]
        by_cases hl : i < l
        · rw [List.getElem?_range hl]; simp [hi]
        · rw [List.getElem?_eq_none (by simp; omega)]; rfl
theorem wpList_copy_pre {P : Program} {w : World} {ops : Array Oper} {rest : List Oper} {o : Oper} {a : Act} {Q : Exit → Act → World → Prop} (hgd : o.guard = none) (d s : Operand) (dT sT : TypeId)
    (ho : o.op = .call { callee := .builtin .copy, args := #[d, s], argTypes := #[dT, sT] }) (elem : TypeId) (hu : P.underlying dT = some (.slice elem)) (hsz : (P.info? elem).map (·.size) = some 1)
    (g l n dCap : Nat) (v : Value) (hd : a.eval d = .slice (some ⟨g, 0, none⟩) l dCap) (hs : a.eval s = v) (t : TypeId) (f0 f : Nat → Value) (hle : n ≤ l) (hO : Ov w t g f0 l) (hv : Sv w v n f n) (h1 : ∀ i, (f i).oneCell' = true)
    (h : ∀ w', Ov w' t g (fun i => if i < n then f i else f0 i) l → But g w w' → wpList P ops Q rest (a.put o.dst (goInt n)) w') : wpList P ops Q (o :: rest) a w :=
  wpList_plain hgd fun _ hK => oper_copy_pre d s dT sT ho elem hu hsz g l n dCap v hd hs t f0 f hle hO hv h1 (fun w' h1 h2 => hK _ _ (h w' h1 h2))
theorem el_oo : el 0#8 = 0 := by decide +kernel
/-- The fault of what should be square. -/
def sq (r : Nat) (l : Nat → Nat) : Int := if fc r l ≠ 0 then fc r l else if cw r l ≠ r then 31 else 0
section
attribute [local irreducible] Calls fc cw sq
theorem square_any {w : World} {v : Value} {r : Nat} {l : Nat → Nat} (h : Lm w v r l) : Calls Try.prog 51 #[v] w fun e w' => e = .returned (.int .i64 (sq r l)) ∧ w' = w := by
  obtain ⟨p, c, e⟩ := (show ∃ p c, v = .slice p r c from by obtain ⟨rows, h, _⟩ := h; exact h.form)
  subst e
  have F1 := (show Hid _ from faultE_any h)
  by_cases f1 : fc r l = 0
  · rw [f1] at F1
    have C1 := (show Hid _ from columnsE_any h (by have := (fc_zero f1).1; omega))
    by_cases f2 : cw r l = r
    · have e : sq r l = 0 := by unfold sq; rw [if_neg (by simp [f1]), if_neg (by simp [f2])]
      rw [e]
      rw [f2] at C1
      have i1 : ((r : Int) != (r : Int)) = false := by simp
      clear h f1 f2 e
      go_enter Try.func51, Try.ntmps51
      go_wp2_with (first
        | (go_at_call 55; refine F1.out.mono ?_; rintro e w' ⟨rfl, h⟩; obtain rfl := h.symm)
        | (go_at_call 56; refine C1.out.mono ?_; rintro e w' ⟨rfl, h⟩; obtain rfl := h.symm))
      go_ret
      exact ⟨rfl, rfl⟩
    · have e : sq r l = 31 := by unfold sq; rw [if_neg (by simp [f1]), if_pos f2]
      rw [e]
      have i1 : ((cw r l : Int) != (r : Int)) = true := by simp; omega
      clear h f1 f2 e
      go_enter Try.func51, Try.ntmps51
      go_wp2_with (first
        | (go_at_call 55; refine F1.out.mono ?_; rintro e w' ⟨rfl, h⟩; obtain rfl := h.symm)
        | (go_at_call 56; refine C1.out.mono ?_; rintro e w' ⟨rfl, h⟩; obtain rfl := h.symm))
      go_ret
      exact ⟨rfl, rfl⟩
  · have e : sq r l = fc r l := by unfold sq; rw [if_pos f1]
    rw [e]
    have i1 : (fc r l != 0) = true := by simpa using f1
    clear h f1 e
    go_enter Try.func51, Try.ntmps51
    go_wp2_with (first
      | (go_at_call 55; refine F1.out.mono ?_; rintro e w' ⟨rfl, h⟩; obtain rfl := h.symm))
    go_ret
    exact ⟨rfl, rfl⟩
end
theorem un_sv {w : World} {v : Value} {n : Nat} {f : Nat → BitVec 8} (h : NrE w v n f) : Sv w v n (clE f) n := h
theorem un_at {w : World} {v : Value} {n : Nat} {f : Nat → BitVec 8} (h : NrE w v n f) : ∃ p c, v = .slice p n c ∧ (0 < n → ∃ b o, p = some ⟨b, o, none⟩ ∧ ∀ i, i < n → w.cell? ⟨b, o + i, none⟩ = some (.int .u8 (el (f i)))) := by
  obtain ⟨p, c, e, h⟩ := h
  refine ⟨p, c, e, fun h0 => ?_⟩
  rcases h with h | h
  · omega
  · exact h
section
attribute [local irreducible] Calls el Ov GmE fc cw NrE clE
set_option maxHeartbeats 8000000 in
set_option maxRecDepth 1000000 in
theorem widened_core (p1 : Option Addr) (r c1 m : Nat) (l : Nat → Nat) (P : Nat → Nat → BitVec 8) (w : World) (hm : m ≤ 255) (f1 : Hid (fc r l = 0)) (N1 : Hid (NmE w (.slice p1 r c1) r l P)) :
    Calls Try.prog 53 #[.slice p1 r c1, .int .i64 (m : Int)] w fun e w' => ∃ v, e = .returned v ∧ GxE w.heap.size w' v r (cw r l + m) (fun i j => if j < cw r l then P i j else 0#8) ∧ Below w.heap.size w w' := by
  have hr : r ≤ 255 := (fc_zero f1.out).1
  have C1 := (show Hid _ from columnsE_any (NmE.lm N1.out) (by omega))
  have hc : cw r l ≤ 255 := by
    unfold cw
    by_cases e : r = 0
    · rw [if_pos e]; omega
    · rw [if_neg e]; exact (fc_zero f1.out).2.1 0 (by omega)
  have e1 : wrap64 ((cw r l : Int) + (m : Int)) = ((cw r l + m : Nat) : Int) := by unfold wrap64; omega
  go_enter Try.func53, Try.ntmps53
  go_wp2_with (first
    | (go_at_call 56; refine C1.out.mono ?_; rintro e w' ⟨rfl, h⟩; obtain rfl := h.symm)
    | (go_at_call 50; refine (blankxE r (cw r l + m) (by omega) (by omega) _).mono ?_; rintro e w1 ⟨B, rfl, hG1, hB, hb⟩))
  have HG0 : Hid (GmE w1 B r (cw r l + m) (fun i => B + 1 + i) (fun i j => if i < 0 ∧ j < cw r l then P i j else 0#8)) := hG1.congr (fun i _ j _ => by rw [if_neg (by omega)]; rfl)
  have HB0 := (show Hid _ from hb)
  clear hG1 hb C1
  go_loopw [17] (fun i wr => ∃ k : Nat, k ≤ r ∧ i = .int .i64 k ∧ GmE wr B r (cw r l + m) (fun i => B + 1 + i) (fun i j => if i < k ∧ j < cw r l then P i j else 0#8) ∧ Below w.heap.size w wr) (fun i _ => r - (intOf i).toNat)
  case atStart => exact ⟨0, Nat.zero_le _, rfl, HG0.out, HB0.out⟩
  case round =>
    clear HG0 HB0
    obtain ⟨k, hk, rfl, hG, hb⟩ := hrel
    by_cases hlt : k < r
    · have j1 : (k : Int) < (r : Int) := by omega
      obtain ⟨rowsA, hSv, hRA⟩ := N1.out
      obtain ⟨bA, oA, cA, eA, hcA⟩ := hSv.cells (by omega)
      injection eA with eA _ eA2
      subst eA eA2
      have hl2 : l k = cw r l := by unfold cw; rw [if_neg (by omega)]; exact (fc_zero f1.out).2.2 k hlt
      have nr := NrE.below (hRA k hlt) hb
      rw [hl2] at nr
      have HR := (show Hid _ from un_sv nr)
      have g0 := cell_below (hcA k hlt) hb
      have g1 := hG.out hlt
      have HO := (show Hid _ from hG.ov hlt)
      have HG := (show Hid _ from hG)
      have HB := (show Hid _ from hb)
      clear hSv hRA hcA nr hG hb
      go_wp2_with (refine wpList_copy_pre rfl _ _ 84 84 rfl 83 Try.underlying84 (by kernel_rfl) (B + 1 + k) (cw r l + m) (cw r l) _ _ rfl rfl 83 _ _ (by omega) HO.out HR.out (clE_one _) ?_; intro w2 hO2 hB2)
      go_roundw
      case rel =>
        refine ⟨k + 1, by omega, by go_num, (GmE.but (f := fun j => if j < cw r l then P k j else 0#8) HG.out hlt hB2 (hO2.congr (fun j _ => ?_))).congr (fun i _ j _ => ?_), But.from HB.out hB2 (by omega)⟩
        · unfold clE
          dsimp only
          by_cases e : j < cw r l
          · rw [if_pos e, if_pos e]
          · rw [if_neg e, if_neg e, if_neg (fun x => e x.2)]
        · by_cases e : i = k
          · subst e
            rw [if_pos rfl]
            by_cases e2 : j < cw r l
            · rw [if_pos e2, if_pos ⟨by omega, e2⟩]
            · rw [if_neg e2, if_neg (fun x => e2 x.2)]
          · rw [if_neg e]
            by_cases e2 : i < k ∧ j < cw r l
            · rw [if_pos e2, if_pos ⟨by omega, e2.2⟩]
            · rw [if_neg e2, if_neg (by omega)]
      case measure => simp [intOf]; omega
    · obtain rfl : k = r := by omega
      go_wp2
      go_ret
      have hG2 : GmE wr B k (cw k l + m) (fun i => B + 1 + i) (fun i j => if j < cw k l then P i j else 0#8) := hG.congr (fun i hi j _ => by
        by_cases e : j < cw k l
        · rw [if_pos ⟨hi, e⟩, if_pos e]
        · rw [if_neg (fun x => e x.2), if_neg e])
      exact ⟨_, rfl, ⟨B, _, rfl, hG2, hB, fun i hi => by omega⟩, hb⟩
set_option maxHeartbeats 8000000 in
set_option maxRecDepth 1000000 in
theorem unit_core (p1 : Option Addr) (r c1 : Nat) (l : Nat → Nat) (P : Nat → Nat → BitVec 8) (w : World) (hr : r ≤ 255) (hl : Hid (∀ i, i < r → l i ≤ 255)) (N1 : Hid (NmE w (.slice p1 r c1) r l P)) :
    Calls Try.prog 52 #[.slice p1 r c1] w fun e w' => ∃ u : BitVec 8, e = .returned (.int .u8 (el u)) ∧ ((u = 1#8 ∧ ∃ i j, i < r ∧ j < l i ∧ P i j ≠ 0#8) ∨ (u = 0#8 ∧ ∀ i, i < r → ∀ j, j < l i → P i j = 0#8)) ∧ Below w.heap.size w w' := by
  go_enter Try.func52, Try.ntmps52
  go_wp2
  go_loopw [12] (fun i wr => ∃ k : Nat, k ≤ r ∧ i = .int .i64 k ∧ Hid (∀ i, i < k → ∀ j, j < l i → P i j = 0#8) ∧ Below w.heap.size w wr) (fun i _ => r - (intOf i).toNat)
  case atStart => exact ⟨0, Nat.zero_le _, rfl, fun i hi => by omega, Below.refl _ _⟩
  case round =>
    obtain ⟨k, hk, rfl, hz, hb⟩ := hrel
    by_cases hlt : k < r
    · have j1 : (k : Int) < (r : Int) := by omega
      obtain ⟨rowsA, hSv, hRA⟩ := N1.out
      obtain ⟨bA, oA, cA, eA, hcA⟩ := hSv.cells (by omega)
      injection eA with eA _ eA2
      subst eA eA2
      obtain ⟨pr, cr, er, hra⟩ := un_at (hRA k hlt)
      have g0 := hcA k hlt
      rw [er] at g0
      have g1 := cell_below g0 hb
      have HRA := (show Hid _ from hra)
      have HB := (show Hid _ from hb)
      have hlk := hl.out k hlt
      clear hSv hRA hcA er hra g0 hb
      go_wp2
      clear g1
      go_loopw [18] (fun i wq => ∃ t : Nat, t ≤ l k ∧ i = .int .i64 t ∧ Hid (∀ j, j < t → P k j = 0#8) ∧ Below w.heap.size w wq) (fun i _ => l k - (intOf i).toNat)
      case atStart => exact ⟨0, Nat.zero_le _, rfl, fun j hj => by omega, HB.out⟩
      case round =>
        clear HB
        obtain ⟨t, ht, rfl, hz2, hb⟩ := hrel
        by_cases hltt : t < l k
        · have j2 : (t : Int) < (l k : Int) := by omega
          obtain ⟨pa, oa, ep, hca⟩ := HRA.out (by omega)
          subst ep
          have ga := cell_below (hca t hltt) hb
          by_cases hn : P k t = 0#8
          · have HI := (show Hid _ from fun w => inverse_zero w)
            rw [← hn] at HI
            have hz3 : Hid (∀ j, j < t + 1 → P k j = 0#8) := fun j hj => by
              by_cases e : j = t
              · rw [e]; exact hn
              · exact hz2.out j (by omega)
            clear hn hca
            go_wp2_with (refine (HI.out _).mono ?_; rintro e w' ⟨rfl, h⟩; obtain rfl := h.symm)
            go_roundw
            case rel => exact ⟨t + 1, by omega, by go_num, hz3, hb⟩
            case measure => simp [intOf]; omega
          · have HN : Hid (P k t ≠ 0#8) := hn
            have e1 : Hid (tiE (P k t) (inv (P k t)) = 1#8) := by show _ = _; unfold tiE; exact gm_inv hn
            clear hn hca
            go_wp2_with (first
              | (refine (inverse_any (P k t) HN.out _).mono ?_; rintro e w4 ⟨rfl, hb4⟩)
              | (refine (timesE (P k t) (inv (P k t)) _).mono ?_; rintro e w' ⟨rfl, h⟩; obtain rfl := h.symm))
            go_ret
            exact ⟨1#8, by rw [← e1.out]; rfl, .inl ⟨rfl, k, t, hlt, hltt, HN.out⟩, bt hb hb4⟩
        · obtain rfl : t = l k := by omega
          have hz3 : Hid (∀ i, i < k + 1 → ∀ j, j < l i → P i j = 0#8) := fun i hi j hj => by
            by_cases e : i = k
            · subst e; exact hz2.out j hj
            · exact hz.out i (by omega) j hj
          go_wp2
          exact ⟨⟨k + 1, by omega, by go_num, hz3, hb⟩, by simp [intOf]; omega⟩
    · obtain rfl : k = r := by omega
      go_wp2
      go_ret
      exact ⟨0#8, by rw [el_oo]; rfl, .inr ⟨rfl, hz.out⟩, hb⟩
end
end Go.Proofs.Ytgokkppojhokbaa
/-
  'Inverse', 'Rank' over the field of 256.
-/
namespace Go.Proofs.Ytgokkppojhokbaa
open Go.RowKit
theorem sq_zero {r : Nat} {l : Nat → Nat} (h : sq r l = 0) : fc r l = 0 ∧ cw r l = r := by
  unfold sq at h
  by_cases h1 : fc r l = 0
  · rw [if_neg (by simp [h1])] at h
    by_cases h2 : cw r l = r
    · exact ⟨h1, h2⟩
    · rw [if_pos h2] at h; cases h
  · rw [if_pos h1] at h; exact absurd h h1
section
attribute [local irreducible] Calls fc cw sq
theorem inverse_err (p1 : Option Addr) (r c1 : Nat) (l : Nat → Nat) (w : World) (LA : Lm w (.slice p1 r c1) r l) (h : ¬ sq r l = 0) :
    Calls Try.prog 41 #[.slice p1 r c1] w fun e w' => e = .returned (.tuple #[.slice none 0 0, .int .i64 (sq r l)]) ∧ w' = w := by
  have S1 := (show Hid _ from square_any LA)
  have f5 : (sq r l != 0) = true := by simpa using h
  clear LA h
  go_enter Try.func41, Try.ntmps41
  go_wp2_with (first
    | (go_at_call 51; refine S1.out.mono ?_; rintro e w' ⟨rfl, h⟩; obtain rfl := h.symm))
  go_ret2
  exact ⟨rfl, rfl⟩
end
theorem GmE.away {w w' : World} {B r l : Nat} {ρ : Nat → Nat} {N : Nat → Nat → BitVec 8} (h : GmE w B r l ρ N) {g : Nat} (hb : But g w w') (hB : B ≠ g) (hρ : ∀ i, i < r → ρ i ≠ g) : GmE w' B r l ρ N :=
  ⟨hb.ov (Gr.out h) hB, fun i hi => hb.ov (Gr.row h i hi) (hρ i hi), Gr.ne h, Gr.inj h⟩
theorem GmE.bo {w : World} {B r l : Nat} {ρ : Nat → Nat} {N : Nat → Nat → BitVec 8} (h : GmE w B r l ρ N) : B < w.heap.size := (Gr.out h).lt
/-- The matrix with the first k ones behind it. -/
def wid (P : Nat → Nat → BitVec 8) (r : Nat) (u : BitVec 8) (k i j : Nat) : BitVec 8 := if i < k ∧ j = r + i then u else if j < r then P i j else 0#8
theorem wid_zero (P : Nat → Nat → BitVec 8) (r : Nat) (u : BitVec 8) (i j : Nat) : (if j < r then P i j else 0#8) = wid P r u 0 i j := by unfold wid; rw [if_neg (show ¬ (i < 0 ∧ j = r + i) by omega)]
theorem wid_put (P : Nat → Nat → BitVec 8) (r : Nat) (u : BitVec 8) (k i j : Nat) : (if i = k then (if j = r + k then u else wid P r u k i j) else wid P r u k i j) = wid P r u (k + 1) i j := by
  unfold wid
  by_cases e : i = k
  · subst e
    rw [if_pos rfl]
    by_cases e2 : j = r + i
    · rw [if_pos e2, if_pos ⟨by omega, e2⟩]
    · rw [if_neg e2, if_neg (show ¬ (i < i ∧ j = r + i) from fun x => e2 x.2), if_neg (show ¬ (i < i + 1 ∧ j = r + i) from fun x => e2 x.2)]
  · rw [if_neg e]
    by_cases e2 : i < k ∧ j = r + i
    · rw [if_pos e2, if_pos ⟨by omega, e2.2⟩]
    · rw [if_neg e2, if_neg (show ¬ (i < k + 1 ∧ j = r + i) by omega)]
theorem wid_left {P : Nat → Nat → BitVec 8} {r : Nat} {u : BitVec 8} {k i j : Nat} (hj : j < r) : wid P r u k i j = P i j := by unfold wid; rw [if_neg (by omega), if_pos hj]
theorem wid_right {P : Nat → Nat → BitVec 8} {r : Nat} {i j : Nat} (hi : i < r) : wid P r 1#8 r i (r + j) = dl fdE i j := by
  unfold wid dl
  by_cases e : i = j
  · rw [if_pos ⟨hi, by omega⟩, if_pos e]; rfl
  · rw [if_neg (by omega), if_neg (by omega), if_neg e]; rfl
theorem wid_all {P : Nat → Nat → BitVec 8} {r d : Nat} {u : BitVec 8} {N E F : Nat → Nat → BitVec 8} {pv : Nat → Nat} (h : Ech fdE r r d (wid P r u r) N E F pv) (hd : d = r) (hu : (u = 1#8 ∧ ∃ i j, i < r ∧ j < r ∧ P i j ≠ 0#8) ∨ (u = 0#8 ∧ ∀ i, i < r → ∀ j, j < r → P i j = 0#8)) :
    (∀ i, i < r → ∀ j, j < r → mm fdE r (fun i j => N i (r + j)) P i j = dl fdE i j) ∧ ∀ i, i < r → ∀ j, j < r → mm fdE r P (fun i j => N i (r + j)) i j = dl fdE i j := by
  subst hd
  by_cases h0 : d = 0
  · subst h0; exact ⟨fun i hi => by omega, fun i hi => by omega⟩
  · rcases hu with ⟨rfl, _⟩ | ⟨rfl, hz⟩
    · exact h.inverse (fun i _ j hj => wid_left hj) (fun i hi j _ => wid_right hi)
    · exfalso
      have h1 := h.full (i := 0) (j := 0) (by omega) (by omega)
      rw [h.req.eq 0 (by omega), show mm fdE d E (wid P d 0#8 d) 0 0 = fdE.oo from sm_oo (fun t ht => by rw [wid_left (by omega), hz t ht 0 (by omega)]; exact ti_oo _)] at h1
      exact fdE.ee_ne h1.symm
section
attribute [local irreducible] Calls el Ov GmE fc cw sq NmE clE wid
set_option maxHeartbeats 8000000 in
set_option maxRecDepth 1000000 in
theorem inverse_core (p1 : Option Addr) (r c1 : Nat) (l : Nat → Nat) (P : Nat → Nat → BitVec 8) (w : World) (f1 : Hid (sq r l = 0)) (N1 : Hid (NmE w (.slice p1 r c1) r l P)) :
    Calls Try.prog 41 #[.slice p1 r c1] w fun e w' => (∃ v X, e = .returned (.tuple #[v, .int .i64 0]) ∧ GxE w.heap.size w' v r r X ∧ (∀ i, i < r → ∀ j, j < r → mm fdE r X P i j = dl fdE i j) ∧ (∀ i, i < r → ∀ j, j < r → mm fdE r P X i j = dl fdE i j) ∧ Below w.heap.size w w') ∨ (e = .returned (.tuple #[.slice none 0 0, .int .i64 32]) ∧ (∀ X : Nat → Nat → BitVec 8, ¬ (∀ i, i < r → ∀ j, j < r → mm fdE r X P i j = dl fdE i j)) ∧ Below w.heap.size w w') := by
  have S1 := (show Hid _ from square_any (NmE.lm N1.out))
  rw [f1.out] at S1
  have f2 := (sq_zero f1.out).1
  have f3 : Hid (cw r l = r) := (sq_zero f1.out).2
  have hr : r ≤ 255 := (fc_zero f2).1
  have HL : Hid (∀ i, i < r → l i ≤ 255) := (fc_zero f2).2.1
  have HLR : Hid (∀ i, i < r → l i = r) := fun i hi => by have h3 := (fc_zero f2).2.2 i hi; have h4 := f3.out; unfold cw at h4; rw [if_neg (by omega)] at h4; omega
  have F2 : Hid (fc r l = 0) := f2
  clear f2
  go_enter Try.func41, Try.ntmps41
  go_wp2_with (first
    | (go_at_call 51; refine S1.out.mono ?_; rintro e w' ⟨rfl, h⟩; obtain rfl := h.symm)
    | (go_at_call 52; refine (unit_core p1 r c1 l P w hr HL N1).mono ?_; rintro e w1 ⟨u, rfl, hu, hb1⟩; have HU := (show Hid _ from hu); clear hu)
    | (go_at_call 53; refine (widened_core p1 r c1 r l P w1 (by omega) F2 (NmE.below N1.out hb1)).mono ?_; rintro e w2 ⟨v2, rfl, ⟨B, ρ, e2, hG2, hB, hρ⟩, hb2⟩; subst e2))
  rw [f3.out] at hG2
  have HG0 : Hid (GmE w2 B r (r + r) ρ (wid P r u 0)) := hG2.congr (fun i _ j _ => wid_zero P r u i j)
  have HB0 := (show Hid _ from bt hb1 hb2)
  have hB2 : w.heap.size ≤ B := by have := hb1.size; omega
  have Hρ : Hid (∀ i, i < r → w.heap.size ≤ ρ i) := fun i hi => by have := hρ i hi; have := hb1.size; omega
  clear hG2 hb1 hb2 hρ hB S1
  go_loopw [27] (fun i wr => ∃ k : Nat, k ≤ r ∧ i = .int .i64 k ∧ GmE wr B r (r + r) ρ (wid P r u k) ∧ Below w.heap.size w wr) (fun i _ => r - (intOf i).toNat)
  case atStart => exact ⟨0, Nat.zero_le _, rfl, HG0.out, HB0.out⟩
  case round =>
    clear HG0 HB0
    obtain ⟨k, hk, rfl, hG, hb⟩ := hrel
    by_cases hlt : k < r
    · have j1 : (k : Int) < (r : Int) := by omega
      have e1 : wrap64 ((r : Int) + (k : Int)) = ((r + k : Nat) : Int) := by unfold wrap64; omega
      have j2 : ((r + k : Nat) : Int) < ((r + r : Nat) : Int) := by omega
      have g1 := hG.out hlt
      have g2 : wr.cell? ⟨ρ k, r + k, none⟩ = some (.int .u8 (el (wid P r u k k (r + k)))) := hG.cell hlt (by omega)
      have g3 := hG.frozen hlt (r + k)
      have hGp := hG.put hlt (j := r + k) (by omega) u rfl
      have HG2 : Hid (GmE (wr.setCell ⟨ρ k, r + k, none⟩ (.int .u8 (el u))) B r (r + r) ρ (wid P r u (k + 1))) := hGp.congr (fun i _ j _ => wid_put P r u k i j)
      have HB2 := (show Hid _ from hb.setCell (Hρ.out k hlt) (p := ⟨ρ k, r + k, none⟩) (.int .u8 (el u)))
      clear hGp hG hb
      go_wp2
      go_roundw
      case rel => exact ⟨k + 1, by omega, by go_num, HG2.out, HB2.out⟩
      case measure => simp [intOf]; omega
    · obtain rfl : k = r := by omega
      have hsz := hb.size
      have HUL : Hid ((u = 1#8 ∧ ∃ i j, i < k ∧ j < k ∧ P i j ≠ 0#8) ∨ (u = 0#8 ∧ ∀ i, i < k → ∀ j, j < k → P i j = 0#8)) := by
        rcases HU.out with ⟨h1, i, j, hi, hj, hp⟩ | ⟨h1, h2⟩
        · exact .inl ⟨h1, i, j, hi, by rw [HLR.out i hi] at hj; exact hj, hp⟩
        · exact .inr ⟨h1, fun i hi j hj => h2 i hi j (by rw [HLR.out i hi]; exact hj)⟩
      have RED := (show Hid _ from reduce_core B k (k + k) k w.heap.size ρ _ wr hr (by omega) (by omega) hG hsz hB2 Hρ)
      have HB := (show Hid _ from hb)
      clear hG hb HU
      go_wp2_with (first
        | (go_at_call 54; refine RED.out.mono ?_; rintro e w3 ⟨d, ρ', N, E, F, pv, rfl, hE, hG3, hρ3, hb3⟩; rcases Nat.lt_or_ge d k with hdk | hdk))
      · go_ret2
        exact .inr ⟨rfl, fun X hX => hE.few hdk (fun i _ j hj => wid_left hj) hX, HB.out.trans hb3⟩
      · have hdk2 : d = k := by have := hE.dr; omega
        have INV := (show Hid _ from wid_all hE hdk2 HUL.out)
        have HG3 := (show Hid _ from hG3)
        have HB3 := (show Hid _ from HB.out.trans hb3)
        have s3 : w.heap.size ≤ w3.heap.size := by have := hb3.size; omega
        clear hE hG3 hb3 RED HUL hρ3
        go_wp2_with (first
          | (go_at_call 50; refine (blankxE k k (by omega) (by omega) _).mono ?_; rintro e w4 ⟨B4, rfl, hG4, hB4, hb4⟩))
        have HW4 : Hid (GmE w4 B k (k + k) ρ' N) := HG3.out.below hb4
        have HI4 : Hid (GmE w4 B4 k k (fun i => B4 + 1 + i) (fun i j => if i < 0 then N i (k + j) else 0#8)) := hG4.congr (fun i _ j _ => by rw [if_neg (by omega)]; rfl)
        have HB4 : Hid (Below w.heap.size w w4) := HB3.out.trans (hb4.mono s3)
        have b4 : B < B4 := by have := HG3.out.bo; omega
        have p4 : Hid (∀ i, i < k → ρ' i < B4) := fun i hi => by have := HG3.out.bd hi; omega
        clear HG3 HB3 hG4 hb4
        go_loopw [49] (fun i wr => ∃ t : Nat, t ≤ k ∧ i = .int .i64 t ∧ GmE wr B k (k + k) ρ' N ∧ GmE wr B4 k k (fun i => B4 + 1 + i) (fun i j => if i < t then N i (k + j) else 0#8) ∧ Below w.heap.size w wr) (fun i _ => k - (intOf i).toNat)
        case atStart => exact ⟨0, Nat.zero_le _, rfl, HW4.out, HI4.out, HB4.out⟩
        case round =>
          clear HW4 HI4 HB4
          obtain ⟨t, ht, rfl, hW, hI, hb⟩ := hrel
          by_cases hlt2 : t < k
          · have j1 : (t : Int) < (k : Int) := by omega
            have j3 : (k : Int) ≤ ((k + k : Nat) : Int) := by omega
            have j4 : (0 : Int) ≤ (k : Int) := by omega
            have j5 : (k : Int) ≤ (k : Int) + (k : Int) := by omega
            have kn : ¬ k = 0 := by omega
            have g1 := hW.out hlt2
            have g2 := hI.out hlt2
            have HWd : Hid (GmE wr.drew B k (k + k) ρ' N) := hW.below (bdr _)
            have HId : Hid (GmE wr.drew B4 k k (fun i => B4 + 1 + i) (fun i j => if i < t then N i (k + j) else 0#8)) := hI.below (bdr _)
            have HOd := (show Hid _ from HId.out.ov hlt2)
            have HSv : Hid (Sv wr.drew (.slice (some ⟨ρ' t, k, none⟩) k k) k (clE (fun j => N t (k + j))) k) := ⟨_, _, rfl, .inr ⟨_, _, rfl, fun i hi => by have h := HWd.out.cell hlt2 (j := k + i) (by omega); rw [h]; unfold clE; rfl⟩⟩
            have KS := (show Hid _ from cell_below g2 (bdr _))
            have HBd := (show Hid _ from hb.drew)
            have n1 : ¬ B4 = B4 + 1 + t := by omega
            clear hW hI hb
            go_wp2
            go_region_law (refine step_copy_all rfl _ _ 84 84 rfl 83 Try.underlying84 1 (by kernel_rfl) (B4 + 1 + t) k k _ _ rfl rfl 83 _ (clE (fun j => N t (k + j))) (by omega) (by omega) HOd.out (by first | exact HSv.out | (simp; exact HSv.out)) (clE_one _) ?_; intro w5 hO5 hB5)
            all_goals
              go_wp2
              go_roundw
              case rel =>
                refine ⟨t + 1, by omega, by go_num, HWd.out.away hB5 (by omega) (fun i hi => by have := p4.out i hi; omega), (GmE.but (f := fun j => N t (k + j)) HId.out hlt2 hB5 hO5).congr (fun i _ j _ => ?_), But.from HBd.out hB5 (by omega)⟩
                by_cases e : i = t
                · subst e; rw [if_pos rfl, if_pos (by omega)]
                · rw [if_neg e]
                  by_cases e2 : i < t
                  · rw [if_pos e2, if_pos (by omega)]
                  · rw [if_neg e2, if_neg (by omega)]
              case measure => simp [intOf]; omega
          · obtain rfl : t = k := by omega
            go_wp2
            go_ret2
            have hI2 : GmE wr B4 t t (fun i => B4 + 1 + i) (fun i j => N i (t + j)) := hI.congr (fun i hi j _ => by rw [if_pos hi])
            exact .inl ⟨_, _, rfl, ⟨B4, _, rfl, hI2, by omega, fun i hi => by omega⟩, INV.out.1, INV.out.2, hb⟩
end
end Go.Proofs.Ytgokkppojhokbaa
