/-
  'reduce' over the field of 256.
-/
import Derived.Test.YtgokkppojhokbaaCc
import Derived.Test.YtgokkppojhokbaaLc
import Derived.WalkMore
namespace Go.Proofs.Ytgokkppojhokbaa
open Go.RowKit
/-- The field of 256. -/
def fdE : Fd (BitVec 8) where
  pl := plE
  ti := tiE
  oo := 0#8
  ee := 1#8
  iv := inv
  dec := fun a b => inferInstance
  pl_comm := fun a b => by unfold plE; exact BitVec.xor_comm a b
  pl_assoc := fun a b c => by unfold plE; exact BitVec.xor_assoc a b c
  pl_oo := fun a => by unfold plE; simp
  pl_self := fun a => by unfold plE; simp
  ti_comm := fun a b => by unfold tiE; exact gm_comm a b
  ti_assoc := fun a b c => by unfold tiE; exact gm_assoc a b c
  ti_ee := fun a => by unfold tiE; exact gm_one a
  ti_pl := fun a b c => by unfold tiE plE; exact gm_xor_r a b c
  ti_iv := fun a h => by unfold tiE; exact gm_inv h
  ee_ne := by decide
theorem cl2_clr (N : Nat → Nat → BitVec 8) (a c : Nat) (x : BitVec 8) (i j : Nat) : cl2 N a c x i j = clr fdE a x (fun i => N i c) N i j := by
  unfold cl2 clr
  show (if i = a then tiE (N a j) x else plE (N i j) (tiE (N i c) (tiE (N a j) x))) = (if i = a then tiE x (N a j) else plE (N i j) (tiE (N i c) (tiE x (N a j))))
  rw [fdE.ti_comm x (N a j) |> (show tiE x (N a j) = tiE (N a j) x from ·)]
/-- Rows that changed places. -/
theorem GmE.swap {w W : World} {B r l : Nat} {ρ : Nat → Nat} {N : Nat → Nat → BitVec 8} (h : GmE w B r l ρ N) {a b : Nat} (ha : a < r) (hb : b < r) (e : W.heap = ((w.setCell ⟨B, a, none⟩ (.slice (some ⟨ρ b, 0, none⟩) l l)).setCell ⟨B, b, none⟩ (.slice (some ⟨ρ a, 0, none⟩) l l)).heap) : GmE W B r l (fun i => ρ (sw a b i)) (fun i j => N (sw a b i) j) := by
  refine ⟨?_, fun i hi => ?_, fun i hi => Gr.ne h _ (sw_lt ha hb hi), fun i hi j hj x => ?_⟩
  · refine Ov.heap ((((Gr.out h).set ha _).set hb _).congr (fun i hi => ?_)) e
    unfold sw
    by_cases e1 : i = b
    · rw [if_pos e1]
      by_cases e2 : i = a
      · rw [if_pos e2, ← e1, e2]
      · rw [if_neg e2, if_pos e1]
    · rw [if_neg e1]
      by_cases e2 : i = a
      · rw [if_pos e2, if_pos e2]
      · rw [if_neg e2, if_neg e2, if_neg e1]
  · have hs := sw_lt ha hb hi
    have h1 := (Gr.row h _ hs).other (p := ⟨B, a, none⟩) (u := .slice (some ⟨ρ b, 0, none⟩) l l) (by show ρ (sw a b i) ≠ B; exact Gr.ne h _ hs) rfl
    exact h1.other (p := ⟨B, b, none⟩) (by show ρ (sw a b i) ≠ B; exact Gr.ne h _ hs) e
  · have := Gr.inj h _ (sw_lt ha hb hi) _ (sw_lt ha hb hj) x
    rw [← sw_sw a b i, this, sw_sw]
theorem GmE.fz {w : World} {B r l : Nat} {ρ : Nat → Nat} {N : Nat → Nat → BitVec 8} (h : GmE w B r l ρ N) (j : Nat) : w.frozen? ⟨B, j, none⟩ = false := (Gr.out h).frozen j
section
attribute [local irreducible] Calls el Ov GmE clE tiE plE cl2 inv
set_option maxHeartbeats 8000000 in
set_option maxRecDepth 1000000 in
theorem reduce_core (B r l cols b0 : Nat) (ρ : Nat → Nat) (A : Nat → Nat → BitVec 8) (w : World) (hr : r ≤ 255) (hl : l ≤ 1000) (hcl : cols ≤ l) (hG : GmE w B r l ρ A) (hb0 : b0 ≤ w.heap.size) (hB : b0 ≤ B) (hρ : Hid (∀ i, i < r → b0 ≤ ρ i)) :
    Calls Try.prog 54 #[.slice (some ⟨B, 0, none⟩) r r, .int .i64 (cols : Int)] w fun e w' => ∃ (d : Nat) (ρ' : Nat → Nat) (N E F : Nat → Nat → BitVec 8) (pv : Nat → Nat), e = .returned (.int .i64 (d : Int)) ∧ Ech fdE r cols d A N E F pv ∧ GmE w' B r l ρ' N ∧ (∀ i, i < r → b0 ≤ ρ' i) ∧ Below b0 w w' := by
  have HG0 := (show Hid _ from hG)
  clear hG
  go_enter Try.func54, Try.ntmps54
  go_wp2
  go_step3
  go_wp2
  go_step3
  go_wp2
  go_loopw [5, 6] (fun dn cl wr => ∃ (d c : Nat) (ρ' : Nat → Nat) (N E F : Nat → Nat → BitVec 8) (pv : Nat → Nat), d ≤ r ∧ c ≤ cols ∧ dn = .int .i64 d ∧ cl = .int .i64 c ∧ Hid (Ech fdE r c d A N E F pv) ∧ GmE wr B r l ρ' N ∧ Hid (∀ i, i < r → b0 ≤ ρ' i) ∧ Below b0 w wr ∧ Hid (b0 ≤ wr.heap.size)) (fun _ cl _ => cols - (intOf cl).toNat)
  case atStart => exact ⟨0, 0, ρ, A, _, _, _, Nat.zero_le _, Nat.zero_le _, rfl, rfl, Ech.start fdE r A, HG0.out, hρ, Below.refl _ _, hb0⟩
  case round =>
    clear HG0
    obtain ⟨d, c, ρ', N, E, F, pv, hd, hc, rfl, rfl, hE, hG, hρ', hb, hsz⟩ := hrel
    by_cases hlc : c < cols
    · have j1 : (c : Int) < (cols : Int) := by omega
      by_cases hld : d < r
      · have j2 : (d : Int) < (r : Int) := by omega
        have j3 : (c : Int) < (l : Int) := by omega
        have HG := (show Hid _ from hG)
        have HB := (show Hid _ from hb)
        clear hG hb
        go_wp2
        go_loop [7] (fun i => ∃ t : Nat, d ≤ t ∧ t < r ∧ i = .int .i64 t ∧ Hid (∀ k, d ≤ k → k < t → N k c = 0#8)) (fun i => r - (intOf i).toNat)
        case atStart => exact ⟨d, Nat.le_refl _, hld, rfl, fun k h1 h2 => by omega⟩
        case round =>
          obtain ⟨t, hdt, htr, rfl, hz⟩ := hrel
          have k1 : (t : Int) < (r : Int) := by omega
          have g1 := HG.out.out htr
          have g2 : wr.cell? ⟨ρ' t, c, none⟩ = some (.int .u8 (el (N t c))) := HG.out.cell htr (by omega)
          have HZ := (show Hid _ from fun w => isZero_any (N t c) w)
          by_cases hn : N t c = 0#8
          · have ez : (N t c == 0#8) = true := by simpa using hn
            rw [ez] at HZ
            have hz2 : Hid (∀ k, d ≤ k → k < t + 1 → N k c = 0#8) := fun k h1 h2 => by
              by_cases e : k = t
              · rw [e]; exact hn
              · exact hz.out k h1 (by omega)
            clear ez hn
            by_cases hend : t + 1 = r
            · have k2 : (wrap64 ((t : Int) + 1) == (r : Int)) = true := by unfold wrap64; simp; omega
              have hE2 : Hid (Ech fdE r (c + 1) d A N E F pv) := hE.out.skip (fun k h1 h2 => hz2.out k h1 (by omega))
              go_wp2_with (refine (HZ.out _).mono ?_; rintro e w' ⟨rfl, h⟩; obtain rfl := h.symm)
              exact ⟨⟨d, c + 1, ρ', N, E, F, pv, hd, by omega, rfl, by go_num, hE2, HG.out, hρ', HB.out, hsz⟩, by simp [intOf]; omega⟩
            · have k2 : (wrap64 ((t : Int) + 1) == (r : Int)) = false := by unfold wrap64; simp; omega
              go_wp2_with (refine (HZ.out _).mono ?_; rintro e w' ⟨rfl, h⟩; obtain rfl := h.symm)
              go_round
              case rel => exact ⟨t + 1, by omega, by omega, by go_num, hz2⟩
              case measure => simp [intOf]; omega
          · have ez : (N t c == 0#8) = false := by simpa using hn
            rw [ez] at HZ
            have HN : Hid (¬ N t c = 0#8) := hn
            clear ez hn
            go_wp2_with (refine (HZ.out _).mono ?_; rintro e w' ⟨rfl, h⟩; obtain rfl := h.symm)
            have f1 := HG.out.out hld
            have f2 := HG.out.fz d
            have f3 := HG.out.fz t
            have hn2 : Hid ((fun i j => N (sw d t i) j) d c ≠ 0#8) := by show N (sw d t d) c ≠ 0#8; rw [sw_fst]; exact HN.out
            obtain ⟨E', F', hE2⟩ := hE.out.step hdt htr (show N t c ≠ fdE.oo from HN.out)
            have HE2 := (show Hid _ from hE2)
            clear g1 g2 hE2
            have fin : ∀ W : World, W.heap = ((wr.setCell ⟨B, d, none⟩ (.slice (some ⟨ρ' t, 0, none⟩) l l)).setCell ⟨B, t, none⟩ (.slice (some ⟨ρ' d, 0, none⟩) l l)).heap → Below b0 wr W → Calls Try.prog 60 #[.slice (some ⟨B, 0, none⟩) r r, .int .i64 (d : Int), .int .i64 (c : Int)] W fun e w' => e = .returned (.tuple #[]) ∧ GmE w' B r l (fun i => ρ' (sw d t i)) (clr fdE d (inv (N t c)) (fun i => N (sw d t i) c) (fun i j => N (sw d t i) j)) ∧ Below b0 W w' ∧ b0 ≤ w'.heap.size := fun W hW hbW => by
              have hG2 := HG.out.swap hld htr hW
              have hs : b0 ≤ W.heap.size := by rw [hW]; have := hsz.out; simp; omega
              refine (clear_core B r l b0 d c (fun i => ρ' (sw d t i)) (fun i j => N (sw d t i) j) W hr hl hld (by omega) hG2 hn2 hs (fun i hi => hρ'.out _ (sw_lt hld htr hi))).mono ?_
              rintro e w' ⟨he, h1, h2⟩
              refine ⟨he, h1.congr (fun i _ j _ => ?_), h2, ?_⟩
              · rw [cl2_clr]; show clr fdE d (inv (N (sw d t d) c)) _ _ i j = _; rw [sw_fst]
              · have := h2.size; omega
            have FIN := (show Hid _ from fin)
            clear fin
            by_cases hdt2 : d = t
            · subst hdt2
              have BB := ((((Below.refl b0 wr)).setCell hB (p := ⟨B, d, none⟩) (.slice (some ⟨ρ' d, 0, none⟩) l l)).setCell hB (p := ⟨B, d, none⟩) (.slice (some ⟨ρ' d, 0, none⟩) l l)).drew
              go_region
              all_goals
                go_wp2_with (go_at_call 60; refine (FIN.out _ (by rfl) BB).mono ?_; rintro e w5 ⟨rfl, hG5, hb5, hs5⟩)
                exact ⟨⟨d + 1, c + 1, _, _, E', F', _, by omega, by omega, by go_num, by go_num, HE2.out, hG5, fun i hi => hρ'.out _ (sw_lt hld htr hi), (HB.out.trans BB).trans hb5, hs5⟩, by simp [intOf]; omega⟩
            · have n1 : ¬ t = d := fun x => hdt2 x.symm
              have g1 := HG.out.out htr
              have BB := ((((Below.refl b0 wr)).setCell hB (p := ⟨B, d, none⟩) (.slice (some ⟨ρ' t, 0, none⟩) l l)).setCell hB (p := ⟨B, t, none⟩) (.slice (some ⟨ρ' d, 0, none⟩) l l)).drew
              go_region
              all_goals
                go_wp2_with (go_at_call 60; refine (FIN.out _ (by rfl) BB).mono ?_; rintro e w5 ⟨rfl, hG5, hb5, hs5⟩)
                exact ⟨⟨d + 1, c + 1, _, _, E', F', _, by omega, by omega, by go_num, by go_num, HE2.out, hG5, fun i hi => hρ'.out _ (sw_lt hld htr hi), (HB.out.trans BB).trans hb5, hs5⟩, by simp [intOf]; omega⟩
      · obtain rfl : d = r := by omega
        have j2 : ¬ (d : Int) < (d : Int) := by omega
        go_wp2
        (try rw [Exit.noGoto_ret])
        go_ret
        exact ⟨d, ρ', N, E, F, pv, rfl, hE.out.widen (by omega), hG, hρ'.out, hb⟩
    · obtain rfl : c = cols := by omega
      go_wp2
      (try rw [Exit.noGoto_ret])
      go_ret
      exact ⟨d, ρ', N, E, F, pv, rfl, hE.out, hG, hρ'.out, hb⟩
end
end Go.Proofs.Ytgokkppojhokbaa
