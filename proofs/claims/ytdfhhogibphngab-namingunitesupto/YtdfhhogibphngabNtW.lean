/-
  The law of two lists: the walk.
-/
import Derived.Test.YtdfhhogibphngabNx
namespace Go.Proofs.Ytdfhhogibphngab
open Go.RowKit Go.Maps Go.Sort
theorem drop_rev {L : List Tx} {j : Nat} {s : Tx} (hj : j < L.length) (hs : s = L.getD j []) : (L.drop j).reverse = (L.drop (j + 1)).reverse ++ [s] := by
  rw [List.drop_eq_getElem_cons hj, List.reverse_cons, hs]
  simp only [List.getD, List.getElem?_eq_getElem hj, Option.getD_some]
theorem Ot.at {w : World} {base : Nat} {p : Option Addr} {n c : Nat} {ts : List Tx} (h : Ot w base (.slice p n c) ts) (hne : 0 < ts.length) : ∃ g, p = some ⟨g, 0, none⟩ ∧ ∀ i, i < ts.length → w.cell? ⟨g, i, none⟩ = some (encStr (ts.getD i [])) := by
  rcases h.2 with ⟨hv, h0⟩ | ⟨g, cap, cur, hv, hg, hb, h1, h2, h3, h4⟩
  · cases ts with
    | nil => simp at hne
    | cons a t => simp at h0
  · injection hv with e1 e2 e3
    refine ⟨g, e1, fun i hi => ?_⟩
    rw [cell_of_row w g i _ _ _ hb]
    have : (ts.map encStr)[i]? = some (encStr (ts.getD i [])) := by simp [hi]
    rw [← this, ← h4]
    simp [hi]
theorem Rs.cells {w : World} {g : Nat} {l : List Tx} (h : Rs w (some ⟨g, 0, none⟩) l) : ∀ i, i < l.length → w.cell? ⟨g, i, none⟩ = some (encStr (l.getD i [])) := by
  intro i hi
  rcases h with e | ⟨b', o', e, hc⟩
  · rw [e] at hi; simp at hi
  · injection e with e
    injection e with e1 e2
    subst e1
    subst e2
    have := hc i hi
    rw [Nat.zero_add] at this
    exact this
section
attribute [local irreducible] Calls
set_option maxHeartbeats 8000000 in
set_option maxRecDepth 1000000 in
theorem unites_core (w : World) (a1 a2 : Option Addr) (n m c d : Nat) (ns ms : List Tx) (p : Tx) (h1 : Rs w a1 ns) (h2 : Rs w a2 ms) (hn : Hid (ns.length = n)) (hm : Hid (ms.length = m)) (bn : n ≤ 1048576) (bm : m ≤ 1048576) :
    Calls Try.prog 6 #[.slice a1 n c, .slice a2 m d, encStr p] w fun e w' => e = .returned (.bool true) ∧ Below w.heap.size w w' := by
  obtain ⟨L, hL'⟩ : ∃ L, L = ns ++ ms := ⟨_, rfl⟩
  have hL : Hid (L = ns ++ ms) := hL'
  have hLn : L.length ≤ 2097152 := by have := hn.out; have := hm.out; rw [hL', List.length_append]; omega
  have hwL : wrap64 ((L.length : Int) - 1) = (L.length : Int) - 1 := by unfold wrap64; omega
  clear hL'
  go_enter Try.func6, Try.ntmps6
  go_wp2_with (first
    | (go_at_call 8; refine (known_any _).mono ?_; rintro e w1 ⟨rfl, hb1⟩)
    | (at_builtin; refine wpList_apT rfl (.tmp 21) (.tmp 22) rfl w1.heap.size _ [] rfl (World.ownsRow_nil _ _ _ _) a1 n c ns rfl (h1.below hb1) hn.out (by simp; omega) (Nat.le_refl _) ?_; intro v2 w2 ho2 hg2; rw [List.nil_append] at ho2; have hb2 : Below w1.heap.size w1 w2 := (Below.refl _ _).grown hg2 (Nat.le_refl _) (fun z hz => by cases hz); have hbw2 := below_trans hb1 hb2 hb1.size)
    | (at_builtin; refine wpList_apT rfl (.tmp 24) (.tmp 25) rfl w1.heap.size _ ns rfl ho2 a2 m d ms rfl (h2.below hbw2) hm.out (by have := hn.out; omega) hb2.size ?_; intro v3 w3 ho3 hg3; rw [← hL.out] at ho3; have hb3 : Below w1.heap.size w1 w3 := hb2.grown hg3 hb2.size (fun z hz => (ho2.lt z hz).1); have hbw3 := below_trans hb1 hb3 hb1.size; obtain ⟨pA, cA, hvA, hRA⟩ := ho3.shape; rw [hvA] at ho3 ⊢; clear hvA))
  go_loopw [8, 10] (fun v i wr => ∃ k : Nat, k ≤ L.length ∧ i = .int .i64 ((k : Int) - 1) ∧ Ot wr w3.heap.size v (L.drop k).reverse ∧ Below w3.heap.size w3 wr) (fun _ i _ => (intOf i + 1).toNat)
  case atStart => exact ⟨L.length, Nat.le_refl _, rfl, by rw [List.drop_length]; exact World.ownsRow_nil _ _ _ _, Below.refl _ _⟩
  case round =>
    obtain ⟨k, hk, rfl, hO, hb⟩ := hrel
    by_cases hk0 : k = 0
    · subst hk0
      rw [List.drop_zero] at hO
      have hbw := below_trans hbw3 hb hbw3.size
      obtain ⟨TT, hTT'⟩ : ∃ TT, TT = L.reverse ++ ns := ⟨_, rfl⟩
      have hTT : Hid (TT = L.reverse ++ ns) := hTT'
      have hTn : TT.length ≤ 3145728 := by have := hn.out; rw [hTT', List.length_append, List.length_reverse]; omega
      clear hTT'
      go_wp2_with (first
        | (at_builtin; refine wpList_apT rfl (.tmp 41) (.tmp 42) rfl w3.heap.size _ L.reverse rfl hO a1 n c ns rfl (h1.below hbw) hn.out (by rw [List.length_reverse]; omega) hb.size ?_; intro v5 w5 ho5 hg5; rw [← hTT.out] at ho5; have hb5 : Below w3.heap.size w3 w5 := hb.grown hg5 hb.size (fun z hz => (hO.lt z hz).1); have hbw5 := below_trans hbw3 hb5 hbw3.size; obtain ⟨pT, cT, hvT, hRT⟩ := ho5.shape; rw [hvT]; clear hvT)
        | (go_at_call 14; refine (under_any (hRA.below hb5) rfl (by omega) p).mono ?_; rintro e w6 ⟨g6, c6, l, rfl, hU, hO6, hb6⟩; have hbw6 := below_trans hbw5 hb6 hbw5.size)
        | (go_at_call 14; refine (under_any (c := c) (h1.below hbw6) hn.out (by omega) p).mono ?_; rintro e w7 ⟨g7, c7, la, rfl, hUa, hO7, hb7⟩; have hbw7 := below_trans hbw6 hb7 hbw6.size)
        | (go_at_call 14; refine (under_any (c := d) (h2.below hbw7) hm.out (by omega) p).mono ?_; rintro e w8 ⟨g8, c8, lb, rfl, hUb, hO8, hb8⟩; have hbw8 := below_trans hbw7 hb8 hbw7.size))
      have hb68 := below_trans hb7 hb8 hb7.size
      have HL : Hid (∀ i, i < l.length → w8.cell? ⟨g6, i, none⟩ = some (encStr (l.getD i []))) := (hO6.rs.1.below hb68).cells
      have HLa : Hid (∀ i, i < la.length → w8.cell? ⟨g7, i, none⟩ = some (encStr (la.getD i []))) := (hO7.rs.1.below hb8).cells
      have HLb : Hid (∀ i, i < lb.length → w8.cell? ⟨g8, i, none⟩ = some (encStr (lb.getD i []))) := hO8.rs.1.cells
      have RL := hO6.rs.1.below hb68
      have RLa := hO7.rs.1.below hb8
      have RLb := hO8.rs.1
      have nl : l.length ≤ 2097152 := by have := isU_len hU; omega
      have nla : la.length ≤ 1048576 := by have := isU_len hUa; have := hn.out; omega
      have nlb : lb.length ≤ 1048576 := by have := isU_len hUb; have := hm.out; omega
      have two : Hid (∀ x, x ∈ l ↔ x ∈ la ∨ x ∈ lb) := fun x => isU_two (by rw [← hL.out]; exact hU) hUa hUb x
      go_loopw [9, 14] (fun v i wr => ∃ k : Nat, k ≤ l.length ∧ i = .int .i64 k ∧ Ot wr w8.heap.size v ((l.take k).map nm) ∧ Below w8.heap.size w8 wr) (fun _ i _ => l.length - (intOf i).toNat)
      case atStart => exact ⟨0, Nat.zero_le _, rfl, World.ownsRow_nil _ _ _ _, Below.refl _ _⟩
      case round =>
        obtain ⟨k, hk, rfl, hOw, hbr⟩ := hrel
        by_cases hlt : k < l.length
        · have hi1 : (k : Int) < (l.length : Int) := by omega
          obtain ⟨s, hs⟩ : ∃ s, s = l.getD k [] := ⟨_, rfl⟩
          obtain ⟨q1, q2, q3⟩ := isU_at hU hlt
          have hsl : s ∈ l := by rw [hs]; simp only [List.getD, List.getElem?_eq_getElem hlt, Option.getD_some]; exact List.getElem_mem hlt
          rw [← hs] at q1 q2 q3
          have G1 : Hid (∀ wq, Below w8.heap.size w8 wq → wq.cell? ⟨g6, k, none⟩ = some (encStr s)) := fun wq hq => by rw [hs]; exact cell_below (HL.out k hlt) hq
          have g1 := G1.out wr hbr
          have F : Hid ((l.take (k + 1)).map nm = (l.take k).map nm ++ [nm s]) := by
            show _ = _
            have h0 : l.take (k + 1) = l.take k ++ [s] := by rw [List.take_add_one, hs]; simp [hlt]
            rw [h0, List.map_append]; rfl
          have hlen : ((l.take k).map nm).length ≤ 2097152 := by rw [List.length_map, List.length_take]; omega
          have ho := object_ok s q2
          have hab := (two.out s).1 hsl
          clear hs q1 q2 q3 hsl
          by_cases hA : s ∈ la
          · go_wp2_with (first
              | (go_at_call 15; refine (in_any (RLa.below hbr) rfl (by omega) s).mono ?_; rintro e w9 ⟨rfl, hb9⟩; rw [decide_eq_true hA]; have hb8' := below_trans hbr hb9 hbr.size; have g2 := G1.out w9 hb8')
              | (go_at_call 11; refine (ho _).mono ?_; rintro e w10 ⟨rfl, hb10⟩; have hbx := below_trans hb8' hb10 hb8'.size; have hOx := ot_below (ot_below hOw hb9) hb10)
              | (at_builtin; refine wpList_apT rfl _ _ rfl w8.heap.size _ ((l.take k).map nm) rfl (hOx.alloc _) (some ⟨w10.heap.size, 0, none⟩) 1 1 [nm s] rfl (rs_one w10 (nm s)) rfl (by omega) (by have := hbx.size; simp; omega) ?_; intro v11 w11 ho11 hg11))
            have hb11 : Below w8.heap.size w8 w11 := (hbx.alloc hbx.size _).grown hg11 (by have := hbx.size; simp; omega) (fun z hz => (hOx.lt z hz).1)
            go_roundw
            case rel => exact ⟨k + 1, by omega, by go_num, by rw [F.out]; exact ho11, hb11⟩
            case measure => simp [intOf]; omega
          · have hB : s ∈ lb := hab.resolve_left hA
            go_wp2_with (first
              | (go_at_call 15; refine (in_any (RLa.below hbr) rfl (by omega) s).mono ?_; rintro e w9 ⟨rfl, hb9⟩; rw [decide_eq_false hA]; have hb8' := below_trans hbr hb9 hbr.size; have g2 := G1.out w9 hb8')
              | (go_at_call 15; refine (in_any (RLb.below hb8') rfl (by omega) s).mono ?_; rintro e w12 ⟨rfl, hb12⟩; rw [decide_eq_true hB]; have hb8'' := below_trans hb8' hb12 hb8'.size; have g3 := G1.out w12 hb8'')
              | (go_at_call 11; refine (ho _).mono ?_; rintro e w10 ⟨rfl, hb10⟩; have hbx := below_trans hb8'' hb10 hb8''.size; have hOx := ot_below (ot_below (ot_below hOw hb9) hb12) hb10)
              | (at_builtin; refine wpList_apT rfl _ _ rfl w8.heap.size _ ((l.take k).map nm) rfl (hOx.alloc _) (some ⟨w10.heap.size, 0, none⟩) 1 1 [nm s] rfl (rs_one w10 (nm s)) rfl (by omega) (by have := hbx.size; simp; omega) ?_; intro v11 w11 ho11 hg11))
            have hb11 : Below w8.heap.size w8 w11 := (hbx.alloc hbx.size _).grown hg11 (by have := hbx.size; simp; omega) (fun z hz => (hOx.lt z hz).1)
            go_roundw
            case rel => exact ⟨k + 1, by omega, by go_num, by rw [F.out]; exact ho11, hb11⟩
            case measure => simp [intOf]; omega
        · obtain rfl : k = l.length := by omega
          rw [List.take_length] at hOw
          obtain ⟨OO, hOO'⟩ : ∃ OO, OO = l.map nm := ⟨_, rfl⟩
          rw [← hOO'] at hOw
          have hOO : Hid (OO = l.map nm) := hOO'
          have nO : OO.length ≤ 2097152 := by rw [hOO', List.length_map]; exact nl
          clear hOO'
          obtain ⟨pO, cO, rfl, hRO⟩ := hOw.shape
          go_wp2
          go_loopw [17] (fun i wq => ∃ k : Nat, k ≤ la.length ∧ i = .int .i64 k ∧ Below wr.heap.size wr wq) (fun i _ => la.length - (intOf i).toNat)
          case atStart => exact ⟨0, Nat.zero_le _, rfl, Below.refl _ _⟩
          case round =>
            obtain ⟨k, hka, rfl, hbq⟩ := hrel
            have hb8q := below_trans hbr hbq hbr.size
            by_cases hlta : k < la.length
            · have hi1 : (k : Int) < (la.length : Int) := by omega
              obtain ⟨s, hs⟩ : ∃ s, s = la.getD k [] := ⟨_, rfl⟩
              have hsl : Hid (s ∈ l) := (two.out s).2 (.inl (by rw [hs]; simp only [List.getD, List.getElem?_eq_getElem hlta, Option.getD_some]; exact List.getElem_mem hlta))
              have g1 : wr.cell? ⟨g7, k, none⟩ = some (encStr s) := by rw [hs]; exact cell_below (HLa.out k hlta) hb8q
              clear hs
              go_wp2_with (go_at_call 15; refine (in_any (RL.below hb8q) rfl (by omega) s).mono ?_; rintro e w9 ⟨rfl, hb9⟩; rw [decide_eq_true hsl.out])
              go_roundw
              case rel => exact ⟨k + 1, by omega, by go_num, below_trans hbq hb9 hbq.size⟩
              case measure => simp [intOf]; omega
            · obtain rfl : k = la.length := by omega
              go_wp2
              go_loopw [18] (fun i wq => ∃ k : Nat, k ≤ lb.length ∧ i = .int .i64 k ∧ Below w8.heap.size w8 wq ∧ Rs wq pO OO) (fun i _ => lb.length - (intOf i).toNat)
              case atStart => exact ⟨0, Nat.zero_le _, rfl, hb8q, hRO.below hbq⟩
              case round =>
                obtain ⟨k, hkb, rfl, hbz, hROz⟩ := hrel
                by_cases hltb : k < lb.length
                · have hi1 : (k : Int) < (lb.length : Int) := by omega
                  obtain ⟨s, hs⟩ : ∃ s, s = lb.getD k [] := ⟨_, rfl⟩
                  have hsl : Hid (s ∈ l) := (two.out s).2 (.inr (by rw [hs]; simp only [List.getD, List.getElem?_eq_getElem hltb, Option.getD_some]; exact List.getElem_mem hltb))
                  have g1 : wr.cell? ⟨g8, k, none⟩ = some (encStr s) := by rw [hs]; exact cell_below (HLb.out k hltb) hbz
                  clear hs
                  go_wp2_with (go_at_call 15; refine (in_any (RL.below hbz) rfl (by omega) s).mono ?_; rintro e w9 ⟨rfl, hb9⟩; rw [decide_eq_true hsl.out])
                  go_roundw
                  case rel => exact ⟨k + 1, by omega, by go_num, below_trans hbz hb9 hbz.size, hROz.below hb9⟩
                  case measure => simp [intOf]; omega
                · obtain rfl : k = lb.length := by omega
                  have b5 := below_trans (below_trans hb6 hb68 hb6.size) hbz (Nat.le_trans hb6.size hb68.size)
                  have RT := hRT.below b5
                  have b3 := below_trans hb5 b5 hb5.size
                  have RA := hRA.below b3
                  have bw := below_trans hbw3 b3 hbw3.size
                  have RLz := RL.below hbz
                  go_wp2_with (first
                    | (go_at_call 14; refine (under_any RT rfl (by omega) p).mono ?_; rintro e w14 ⟨g14, c14, l4, rfl, hU4, hO14, hb14⟩; have e4 : Hid (l4 = l) := IsU.eq hU4 (isU_set (fun x => by rw [hTT.out, hL.out]; simp; exact Or.comm) hU))
                    | (go_at_call 16; refine (like_any hO14.rs.1 (RLz.below hb14) rfl rfl (by rw [e4.out]; omega)).mono ?_; rintro e w15 ⟨rfl, hb15⟩; rw [decide_eq_true e4.out]; have c15 := below_trans hb14 hb15 hb14.size)
                    | (go_at_call 14; refine (under_any (RA.below c15) rfl (by omega) []).mono ?_; rintro e w16 ⟨g16, c16, l5, rfl, hU5, hO16, hb16⟩; have n5 : l5.length ≤ 2097152 := (by have := isU_len hU5; omega); have c16' := below_trans c15 hb16 c15.size)
                    | (go_at_call 17; refine (chosen_any hO16.rs.1 rfl (by omega) p).mono ?_; rintro e w17 ⟨v17, rfl, hO17, hb17⟩; have e5 : Hid (pk p l5 = l) := IsU.eq (isU_pick hU5) hU; obtain ⟨p17, cc17, hv17, hR17⟩ := hO17.shape; rw [hv17]; have c17 := below_trans c16' hb17 c16'.size)
                    | (go_at_call 16; refine (like_any hR17 (RLz.below c17) rfl rfl (by rw [e5.out]; omega)).mono ?_; rintro e w18 ⟨rfl, hb18⟩; rw [decide_eq_true e5.out]; have c18 := below_trans c17 hb18 c17.size)
                    | (go_at_call 14; refine (under_any (hROz.below c18) rfl (by omega) p).mono ?_; rintro e w19 ⟨g19, c19, l6, rfl, hU6, hO19, hb19⟩; have e6 : Hid (l6 = l) := IsU.eq hU6 (by rw [hOO.out]; exact isU_own hU); have c19' := below_trans c18 hb19 c18.size)
                    | (go_at_call 16; refine (like_any hO19.rs.1 (RLz.below c19') rfl rfl (by rw [e6.out]; omega)).mono ?_; rintro e w20 ⟨rfl, hb20⟩; rw [decide_eq_true e6.out]; have c20 := below_trans c19' hb20 c19'.size))
                  go_ret
                  exact ⟨rfl, below_trans bw c20 bw.size⟩
    · obtain ⟨j, rfl⟩ : ∃ j, k = j + 1 := ⟨k - 1, by omega⟩
      rw [show ((j + 1 : Nat) : Int) - 1 = (j : Int) by omega]
      obtain ⟨g, rfl, HA⟩ := ho3.at (by omega)
      have hj : j < L.length := by omega
      have hj1 : (j : Int) < (L.length : Int) := by omega
      have hj2 : (0 : Int) ≤ (j : Int) := by omega
      have hwj : wrap64 ((j : Int) - 1) = (j : Int) - 1 := by unfold wrap64; omega
      obtain ⟨s, hs⟩ : ∃ s, s = L.getD j [] := ⟨_, rfl⟩
      have g1 : wr.cell? ⟨g, j, none⟩ = some (encStr s) := by rw [hs]; exact cell_below (HA j hj) hb
      have F : Hid ((L.drop j).reverse = (L.drop (j + 1)).reverse ++ [s]) := drop_rev hj hs
      have hlen : ((L.drop (j + 1)).reverse).length ≤ 2097152 := by simp; omega
      clear hs
      go_wp2_with (at_builtin; refine wpList_apT rfl _ _ rfl w3.heap.size _ (L.drop (j + 1)).reverse rfl (hO.alloc _) (some ⟨wr.heap.size, 0, none⟩) 1 1 [s] rfl (rs_one wr s) rfl (by omega) (by have := hb.size; simp; omega) ?_; intro v5 w5 ho5 hg5)
      have hb5 : Below w3.heap.size w3 w5 := (hb.alloc hb.size _).grown hg5 (by have := hb.size; simp; omega) (fun z hz => (hO.lt z hz).1)
      go_roundw
      case rel => exact ⟨j, by omega, rfl, by rw [F.out]; exact ho5, hb5⟩
      case measure => simp [intOf]
end
end Go.Proofs.Ytdfhhogibphngab
