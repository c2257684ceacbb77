/-
  Votes: 'fits', 'Judge', 'Possible'.
-/
import Derived.Test.YtefomnlgpldgnaaVh17
import Derived.Test.YtefomnlgpldgnaaVm17
import Derived.BigQuiet
namespace Go.Proofs.Ytefomnlgpldgnaa
open Go.RowKit
/-- The shape may be, and these are its places. -/
def fitB (k m b : Int) (n : Nat) : Bool := shB k m b && decide ((n : Int) = k + m)
theorem fitB_iff (k m b : Int) (n : Nat) : fitB k m b n = true ↔ (1 ≤ m ∧ m ≤ k ∧ k ≤ 255 - m ∧ 1 ≤ b ∧ b ≤ 65536) ∧ (n : Int) = k + m := by
  unfold fitB shB
  simp only [Bool.and_eq_true, decide_eq_true_eq]
  omega
theorem sub_255 (m : Int) (h : 1 ≤ m) (h' : In64 m) : wrap64 (255 - m) = 255 - m := by unfold In64 at h'; unfold wrap64; omega
theorem add_km {k m : Int} (h : 1 ≤ m) (h2 : m ≤ k) (h3 : k ≤ 255 - m) : wrap64 (k + m) = k + m := by unfold wrap64; omega
section
attribute [local irreducible] Calls GB
set_option maxHeartbeats 4000000 in
set_option maxRecDepth 1000000 in
theorem fits_any (k m b : Int) (hm : In64 m) (p : Option Addr) (n c : Nat) (w : World) :
    Calls Try.prog 19 #[.agg (shC k m b), .slice p n c] w fun e w' => e = .returned (.bool (fitB k m b n)) ∧ Below w.heap.size w w' := by
  have key : ∀ B : Bool, fitB k m b n = B → Calls Try.prog 19 #[.agg (shC k m b), .slice p n c] w fun e w' => e = .returned (.bool B) ∧ Below w.heap.size w w' := by
    intro B hB
    unfold shC
    have hno : (fitB k m b n = true ↔ _) := fitB_iff k m b n
    rw [hB] at hno
    by_cases h1 : 1 ≤ m
    · have s1 := sub_255 m h1 hm
      by_cases h2 : m ≤ k
      · by_cases h3 : k ≤ 255 - m
        · have s2 := add_km h1 h2 h3
          by_cases h4 : 1 ≤ b
          · by_cases h5 : b ≤ 65536
            · by_cases h6 : (n : Int) = k + m
              · obtain rfl : B = true := hno.2 ⟨⟨h1, h2, h3, h4, h5⟩, h6⟩
                have d6 : ((n : Int) == k + m) = true := by simp [h6]
                clear hno hB h6 hm
                go_enter Try.func19, Try.ntmps19
                go_wp2
                go_ret
                exact ⟨rfl, (Below.refl _ _).alloc (Nat.le_refl _) _⟩
              · obtain rfl : B = false := by cases B; rfl; exact absurd (hno.1 rfl).2 h6
                have d6 : ((n : Int) == k + m) = false := by simp [h6]
                clear hno hB h6 hm
                go_enter Try.func19, Try.ntmps19
                go_wp2
                go_ret
                exact ⟨rfl, (Below.refl _ _).alloc (Nat.le_refl _) _⟩
            · obtain rfl : B = false := by cases B; rfl; exact absurd (hno.1 rfl).1.2.2.2.2 h5
              clear hno hB hm
              go_enter Try.func19, Try.ntmps19
              go_wp2
              go_ret
              exact ⟨rfl, (Below.refl _ _).alloc (Nat.le_refl _) _⟩
          · obtain rfl : B = false := by cases B; rfl; exact absurd (hno.1 rfl).1.2.2.2.1 h4
            clear hno hB hm
            go_enter Try.func19, Try.ntmps19
            go_wp2
            go_ret
            exact ⟨rfl, (Below.refl _ _).alloc (Nat.le_refl _) _⟩
        · obtain rfl : B = false := by cases B; rfl; exact absurd (hno.1 rfl).1.2.2.1 h3
          clear hno hB hm
          go_enter Try.func19, Try.ntmps19
          go_wp2
          go_ret
          exact ⟨rfl, (Below.refl _ _).alloc (Nat.le_refl _) _⟩
      · obtain rfl : B = false := by cases B; rfl; exact absurd (hno.1 rfl).1.2.1 h2
        clear hno hB hm
        go_enter Try.func19, Try.ntmps19
        go_wp2
        go_ret
        exact ⟨rfl, (Below.refl _ _).alloc (Nat.le_refl _) _⟩
    · obtain rfl : B = false := by cases B; rfl; exact absurd (hno.1 rfl).1.1 h1
      clear hno hB hm
      go_enter Try.func19, Try.ntmps19
      go_wp2
      go_ret
      exact ⟨rfl, (Below.refl _ _).alloc (Nat.le_refl _) _⟩
  exact key _ rfl
end
/-- What Judge tells. -/
def jdg (k m b : Int) (s : Shs) (n : Nat) : Vd := if fitB k m b n = true then vjd k m (grps s n) (hid s n) else ⟨3, (0, 0, 0), []⟩
theorem vd0 (w : World) : (zeroValue 42).run Try.prog w = .ok (.agg (vdC 0 (0, 0, 0) (.slice none 0 0))) w := by kernel_rfl
theorem gr0 (w : World) : (zeroValue 49).run Try.prog w = .ok (.agg #[.int .i64 0, .int .i64 0, .int .i64 0, .slice none 0 0]) w := by kernel_rfl
theorem size_Vd : (Try.prog.info? 42).map (·.size) = some 5 := by kernel_rfl
theorem size_Gr : (Try.prog.info? 49).map (·.size) = some 4 := by kernel_rfl
theorem size_Sp : (Try.prog.info? 23).map (·.size) = some 3 := by kernel_rfl
theorem size_Sp' (k m b : Int) : (Try.prog.info? 23).map (·.size) = some (shC k m b).size := size_Sp
theorem size_Gr' (x : Wg × Sl3) : (Try.prog.info? 49).map (·.size) = some (grE x).toArray.size := size_Gr
theorem grE_size (x : Wg × Sl3) : (grE x).toArray.size = 4 := rfl
theorem vdC_one (kd : Int) (k : Wg) (v : Value) (h : v.oneCell' = true) : ((vdC kd k v).all fun x => x.oneCell') = true := by
  simp [vdC, h, show ∀ k z, (Value.int k z).oneCell' = true from fun _ _ => rfl]
theorem grE_one (x : Wg × Sl3) : ((grE x).toArray.all fun x => x.oneCell') = true := by simp [grE, Value.oneCell']
theorem on_slen {w : World} {B : Nat} {b : Sl3} {L : List Nat} (h : On w B (slv b) L) : b.2.1 = L.length := by
  rcases h.2 with ⟨e, _⟩ | ⟨g, cap, cur, hv, _⟩
  · unfold slv at e; cases e
  · unfold slv at hv; injection hv
theorem on_shape {w : World} {B : Nat} {b : Sl3} {L : List Nat} (h : On w B (slv b) L) : On w B (.slice (some ⟨b.1, 0, none⟩) L.length b.2.2) L := by
  have e := on_slen h
  unfold slv at h
  rw [e] at h
  exact h
theorem Gv.below {w w' : World} {B g cap : Nat} {l : List Grp} {vs : Nat → Sl3} (h : Gv w B g cap l vs) (hb : Below w.heap.size w w') : Gv w' B g cap l vs :=
  ⟨h.blk, h.cap, fun i hi j u hu => cell_below (h.row i hi j u hu) hb, fun i hi => (h.pls i hi).below hb⟩
theorem Gv.run {w : World} {B g cap : Nat} {l : List Grp} {vs : Nat → Sl3} (h : Gv w B g cap l vs) {i : Nat} (hi : i < l.length) : (loadVar 49 ⟨g, i * 4, none⟩).run Try.prog w = .ok (.agg (grE ((l.getD i ((0, 0, 0), [])).1, vs i)).toArray) w :=
  run_loadVar_at w g (i * 4) 49 _ _ (fun j v hj => h.row i hi j v (by simpa using hj)) Try.underlying49 rfl size_Gr
theorem find_first {K : Int} {l : List Grp} {i : Nat} (hi : i < l.length) (h : ∀ j, j < i → cnts K (l.getD j ((0, 0, 0), [])) = false) (hc : cnts K (l.getD i ((0, 0, 0), [])) = true) : l.find? (cnts K) = some (l.getD i ((0, 0, 0), [])) := by
  induction l generalizing i with
  | nil => simp at hi
  | cons p r ih =>
    cases i with
    | zero => rw [List.find?_cons_of_pos (by simpa using hc)]; rfl
    | succ i =>
      rw [List.find?_cons_of_neg (by have := h 0 (by omega); simpa using this)]
      exact ih (by simpa using hi) (fun j hj => by have := h (j + 1) (by omega); simpa using this) (by simpa using hc)
theorem find_none {K : Int} {l : List Grp} (h : ∀ j, j < l.length → cnts K (l.getD j ((0, 0, 0), [])) = false) : l.find? (cnts K) = none := by
  rw [List.find?_eq_none]
  intro p hp
  obtain ⟨j, hj, e⟩ := List.getElem_of_mem hp
  have := h j hj
  simp [List.getD, hj, e] at this
  simp [this]
section
attribute [local irreducible] Calls GB On slv grE grps shC
set_option maxHeartbeats 8000000 in
set_option maxRecDepth 1000000 in
theorem judge_any (k m b : Int) (hm : In64 m) {w : World} {p : Option Addr} {n c : Nat} {ss : Nat → Sn} (HS : SnL w p n ss) (hn : n ≤ 1172812402943) (hI : ∀ i, i < n → InW (ss i).wg) (hv : ∀ i, i < n → (ss i).bv.oneCell' = true) :
    Calls Try.prog 10 #[.agg (shC k m b), .slice p n c] w fun e w' => ∃ pv, e = .returned (.agg (vdC (jdg k m b (shs ss) n).kd (jdg k m b (shs ss) n).wg pv)) ∧ On w' w.heap.size pv (jdg k m b (shs ss) n).pl ∧ Below w.heap.size w w' := by
  have HL := (show Hid (SnL w p n ss) from HS)
  have HN := (show Hid (n ≤ 1172812402943) from hn)
  have HI := (show Hid (∀ i, i < n → InW (ss i).wg) from hI)
  have HV := (show Hid (∀ i, i < n → (ss i).bv.oneCell' = true) from hv)
  have FT := (show Hid (∀ W : World, _) from fun W => fits_any k m b hm p n c W)
  clear HS hn hI hv hm
  unfold jdg
  cases hf : fitB k m b n with
  | false =>
    rw [hf] at FT
    simp only [Bool.false_eq_true, if_false]
    clear hf
    go_enter Try.func10, Try.ntmps10
    go_wp2_with (first
      | (refine wpList_bxB rfl _ rfl rfl ?_; intro w1 hG1 hb1 hs1)
      | (refine wpList_alB rfl rfl vd0 ?_; intro w2 hG2 hb2 hs2; have hG1' := hG1.below hb2)
      | (refine wpList_ldB rfl _ rfl w.heap.size rfl hG1' Try.underlying23 (size_Sp' _ _ _) ?_)
      | (go_at_call 19; refine (FT.out _).mono ?_; rintro e w3 ⟨rfl, hb3⟩; have hG3 := hG2.below hb3)
      | (refine wpList_stB (cs := vdC 3 (0, 0, 0) (.slice none 0 0)) rfl _ _ rfl rfl w1.heap.size rfl rfl hG3 size_Vd rfl (vdC_one _ _ _ rfl) ?_; intro w4 hG4 hg4 hs4))
    refine bodyPost_ret (res_B rfl _ _ w1.heap.size rfl hG4 Try.underlying42 size_Vd) rfl ?_
    have B3 := bt (bt hb1 hb2) hb3
    exact ⟨_, rfl, On.nil _ _, grown_below B3 hg4 B3.size hb1.size⟩
  | true =>
    rw [hf] at FT
    rw [if_pos rfl]
    clear hf
    go_enter Try.func10, Try.ntmps10
    go_wp2_with (first
      | (refine wpList_bxB rfl _ rfl rfl ?_; intro w1 hG1 hb1 hs1)
      | (refine wpList_alB rfl rfl vd0 ?_; intro w2 hG2 hb2 hs2; have hG1' := hG1.below hb2)
      | (refine wpList_ldB rfl _ rfl w.heap.size rfl hG1' Try.underlying23 (size_Sp' _ _ _) ?_)
      | (go_at_call 19; refine (FT.out _).mono ?_; rintro e w3 ⟨rfl, hb3⟩; have HB3 := (show Hid (Below w.heap.size w w3) from bt (bt hb1 hb2) hb3))
      | (go_at_call 13; refine (groups_any (HL.out.below HB3.out) HN.out HI.out).mono ?_; rintro e w5 ⟨g5, cap5, l5, vs5, rfl, hI5, hV5, hb5⟩; obtain rfl := hI5.eq (isG_grps _ _)))
    have HI5 := (show Hid (IsG (shs ss) n (grps (shs ss) n)) from hI5)
    have HL5 := (show Hid ((grps (shs ss) n).length ≤ 1172812402943) from by have := hI5.lenG; have := HN.out; show _ ≤ _; omega)
    have HV5 := (show Hid (Gv w5 w3.heap.size g5 cap5 (grps (shs ss) n) vs5) from hV5)
    have HW3 := (show Hid (w1.heap.size < w3.heap.size) from by have h1 := hs2.out; have h2 := hb3.size; show _ < _; omega)
    have HB5 := (show Hid (Below w.heap.size w w5) from bt HB3.out hb5)
    have HG1 := (show Hid (GB w5 w.heap.size 23 (shC k m b)) from (hG1'.below hb3).below hb5)
    have HG2 := (show Hid (GB w5 w1.heap.size 42 (vdC 0 (0, 0, 0) (.slice none 0 0))) from (hG2.below hb3).below hb5)
    have HW1 := (show Hid (w.heap.size ≤ w1.heap.size) from hb1.size)
    clear hI5 hV5 hG1 hG1' hG2 FT
    generalize hgl : (grps (shs ss) n) = l at *
    have HEQ := (show Hid (grps (shs ss) n = l) from hgl)
    clear hgl
    go_loopw [15] (fun i wr => ∃ t : Nat, t ≤ l.length ∧ i = .int .i64 (t : Int) ∧ Hid (∀ j, j < t → cnts k (l.getD j ((0, 0, 0), [])) = false) ∧ Hid (Below w5.heap.size w5 wr)) (fun i _ => l.length - (intOf i).toNat)
    case atStart => exact ⟨0, Nat.zero_le _, rfl, fun j hj => by omega, Below.refl _ _⟩
    case round =>
      obtain ⟨t, ht, rfl, hN, hB⟩ := hrel
      obtain ⟨W0, hW0⟩ : ∃ W0, W0 = wr := ⟨_, rfl⟩
      subst hW0
      by_cases hlt : t < l.length
      · have hi : (t : Int) < (l.length : Int) := by omega
        have hrun := (HV5.out.below hB.out).run hlt
        have hpl := (HV5.out.below hB.out).pls t hlt
        have hsl := on_slen hpl
        have WT := (show Hid (wrap64 ((t : Int) + 1) = ((t + 1 : Nat) : Int)) from by have := HL5.out; show _ = _; unfold wrap64; omega)
        have HT := (show Hid (t < l.length) from hlt)
        have HF := (show Hid (cnts k (l.getD t ((0, 0, 0), [])) = true → l.find? (cnts k) = some (l.getD t ((0, 0, 0), []))) from fun h => find_first hlt hN.out h)
        have HNX := (show Hid (cnts k (l.getD t ((0, 0, 0), [])) = false → ∀ j, j < t + 1 → cnts k (l.getD j ((0, 0, 0), [])) = false) from fun h j hj => by
          by_cases e : j = t
          · rw [e]; exact h
          · exact hN.out j (by omega))
        have HK := (show Hid (W0.cell? ⟨w.heap.size, 0, none⟩ = some (.int .i64 k)) from by show _ = _; rw [(HG1.out.below hB.out).cell]; unfold shC; rfl)
        generalize l.getD t ((0, 0, 0), []) = q at *
        obtain ⟨qk, qL⟩ := q
        obtain ⟨b0, hb0⟩ : ∃ b0, b0 = vs5 t := ⟨_, rfl⟩
        rw [← hb0] at hrun hpl hsl
        have HP := (show Hid (On W0 w3.heap.size (slv b0) qL) from hpl)
        clear hb0 hpl hlt ht
        have hooks : True := trivial
        cases hc : cnts k (qk, qL) with
        | true =>
          have hcd : ((qL.length : Int) ≥ k) := by have := hc; unfold cnts at this; simpa using this
          have HE := (show Hid _ from HF.out hc)
          go_wp2_with (first
            | (refine wpList_ldAt rfl _ _ rfl g5 (t * 4) rfl _ hrun ?_)
            | (refine wpList_alB rfl rfl gr0 ?_; intro w6 hG6 hb6 hs6)
            | (refine wpList_stB (cs := (grE (qk, b0)).toArray) rfl _ _ rfl rfl W0.heap.size rfl rfl hG6 (size_Gr' _) (grE_size _) (grE_one _) ?_; intro w7 hG7 hg7 hs7; have HB7 := (show Hid (Below W0.heap.size W0 w7) from grown_below hb6 hg7 hb6.size (Nat.le_refl _)); have c0 := hG7.cell 0; have c1 := hG7.cell 1; have c2 := hG7.cell 2; have c3 := hG7.cell 3; unfold grE at c0 c1 c2 c3; simp only [List.getElem?_toArray, List.getElem?_cons_zero, List.getElem?_cons_succ] at c0 c1 c2 c3; rw [hsl] at c3; have ck := cell_below HK.out HB7.out)
            | (refine wpList_stB (cs := vdC 1 qk (.slice (some ⟨b0.1, 0, none⟩) qL.length b0.2.2)) rfl _ _ rfl rfl w1.heap.size rfl rfl ((HG2.out.below hB.out).below HB7.out) size_Vd rfl (vdC_one _ _ _ rfl) ?_; intro w8 hG8 hg8 hs8))
          refine bodyPost_ret (res_B rfl _ _ w1.heap.size rfl hG8 Try.underlying42 size_Vd) rfl ?_
          have B7 := bt (bt HB5.out hB.out) HB7.out
          unfold vjd
          rw [HEQ.out, HE.out]
          refine ⟨_, rfl, ?_, grown_below B7 hg8 B7.size HW1.out⟩
          have h1 := on_shape HP.out
          have h2 := (h1.below HB7.out).kept hg8 (.inr (by intro e; have := (h1.blk e).1; have := HW3.out; omega))
          exact h2.mono HB3.out.size
        | false =>
          have hcd : ¬ ((qL.length : Int) ≥ k) := by have := hc; unfold cnts at this; simpa using this
          have HE := (show Hid _ from HNX.out hc)
          go_wp2_with (first
            | (refine wpList_ldAt rfl _ _ rfl g5 (t * 4) rfl _ hrun ?_)
            | (refine wpList_alB rfl rfl gr0 ?_; intro w6 hG6 hb6 hs6)
            | (refine wpList_stB (cs := (grE (qk, b0)).toArray) rfl _ _ rfl rfl W0.heap.size rfl rfl hG6 (size_Gr' _) (grE_size _) (grE_one _) ?_; intro w7 hG7 hg7 hs7; have HB7 := (show Hid (Below W0.heap.size W0 w7) from grown_below hb6 hg7 hb6.size (Nat.le_refl _)); have c3 := hG7.cell 3; unfold grE at c3; simp only [List.getElem?_toArray, List.getElem?_cons_zero, List.getElem?_cons_succ] at c3; rw [hsl] at c3; have ck := cell_below HK.out HB7.out))
          go_roundw
          case rel => exact ⟨t + 1, HT.out, by rw [WT.out], HE, bt hB.out HB7.out⟩
          case measure => rw [WT.out]; exact meas_v17 HT.out
      · obtain rfl : t = l.length := by omega
        have HE := (show Hid _ from find_none hN.out)
        have HD := (show Hid (∀ W : World, Below W0.heap.size W0 W → _) from fun W hW => hidden_any (c := c) (((HL.out.below HB5.out).below hB.out).below hW) HN.out HV.out)
        have M0 : W0.cell? ⟨w.heap.size, 1, none⟩ = some (.int .i64 m) := by rw [(HG1.out.below hB.out).cell]; unfold shC; rfl
        have bd : Below W0.heap.size W0 W0.drew := (Below.refl _ _).drew
        have HX := (show Hid (GB W0 w1.heap.size 42 (vdC 0 (0, 0, 0) (.slice none 0 0))) from HG2.out.below hB.out)
        have HB9 := (show Hid (Below w.heap.size w W0) from bt HB5.out hB.out)
        generalize hh9 : hid (shs ss) n = h9 at *
        have HH := (show Hid (hid (shs ss) n = h9) from hh9)
        clear hh9
        clear ht hlt hN hB
        by_cases hmh : m < (h9 : Int)
        · go_wp2_with (fail)
          go_region_with (go_at_call 20; refine (HD.out _ bd).mono ?_; rintro e w6 ⟨rfl, hb6⟩; have M6 := cell_below (w := W0.drew) M0 hb6; have HB6 := (show Hid (Below W0.heap.size W0 w6) from bt bd hb6))
          all_goals
            go_wp2_with (first
              | (refine wpList_stB (cs := vdC 3 (0, 0, 0) (.slice none 0 0)) rfl _ _ rfl rfl w1.heap.size rfl rfl (HX.out.below HB6.out) size_Vd rfl (vdC_one _ _ _ rfl) ?_; intro w8 hG8 hg8 hs8))
            refine bodyPost_ret (res_B rfl _ _ w1.heap.size rfl hG8 Try.underlying42 size_Vd) rfl ?_
            have B7 := bt HB9.out HB6.out
            unfold vjd
            rw [HEQ.out, HE.out, HH.out]
            simp only [if_pos hmh]
            exact ⟨_, rfl, On.nil _ _, grown_below B7 hg8 B7.size HW1.out⟩
        · go_wp2_with (fail)
          go_region_with (go_at_call 20; refine (HD.out _ bd).mono ?_; rintro e w6 ⟨rfl, hb6⟩; have M6 := cell_below (w := W0.drew) M0 hb6; have HB6 := (show Hid (Below W0.heap.size W0 w6) from bt bd hb6))
          all_goals
            go_wp2_with (first
              | (refine wpList_stB (cs := vdC 2 (0, 0, 0) (.slice none 0 0)) rfl _ _ rfl rfl w1.heap.size rfl rfl (HX.out.below HB6.out) size_Vd rfl (vdC_one _ _ _ rfl) ?_; intro w8 hG8 hg8 hs8))
            refine bodyPost_ret (res_B rfl _ _ w1.heap.size rfl hG8 Try.underlying42 size_Vd) rfl ?_
            have B7 := bt HB9.out HB6.out
            unfold vjd
            rw [HEQ.out, HE.out, HH.out]
            simp only [if_neg (Int.not_lt.2 hmh)]
            exact ⟨_, rfl, On.nil _ _, grown_below B7 hg8 B7.size HW1.out⟩
end
end Go.Proofs.Ytefomnlgpldgnaa
