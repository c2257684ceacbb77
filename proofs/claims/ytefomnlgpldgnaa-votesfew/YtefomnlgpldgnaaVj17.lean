/-
  Votes: 'Possible'.
-/
import Derived.Test.YtefomnlgpldgnaaVi17
namespace Go.Proofs.Ytefomnlgpldgnaa
open Go.RowKit
/-- A writing that could count, if h places are hidden. -/
def pq (K : Int) (h : Nat) (p : Grp) : Bool := decide (K ≤ (p.2.length : Int) + (h : Int))
/-- What Possible tells of the groups. -/
def pss (K : Int) (h : Nat) (l : List Grp) : List Grp × Bool :=
  match l.findIdx? (cnts K) with
  | some i => ((l.take (i + 1)).filter (pq K h), false)
  | none => (l.filter (pq K h), true)
theorem findIdx_first {K : Int} {l : List Grp} {i : Nat} (hi : i < l.length) (h : ∀ j, j < i → cnts K (l.getD j ((0, 0, 0), [])) = false) (hc : cnts K (l.getD i ((0, 0, 0), [])) = true) : l.findIdx? (cnts K) = some i := by
  rw [List.findIdx?_eq_some_iff_getElem]
  refine ⟨hi, by simpa [List.getD, hi] using hc, fun j hj => ?_⟩
  have := h j hj
  have hj' : j < l.length := by omega
  simp [List.getD, hj'] at this
  simp [this]
theorem findIdx_none {K : Int} {l : List Grp} (h : ∀ j, j < l.length → cnts K (l.getD j ((0, 0, 0), [])) = false) : l.findIdx? (cnts K) = none := by
  rw [List.findIdx?_eq_none_iff]
  intro p hp
  obtain ⟨j, hj, e⟩ := List.getElem_of_mem hp
  have := h j hj
  simp [List.getD, hj, e] at this
  simp [this]
/-- Groups in memory, each with its list (that lies below B). -/
def Al (w : World) (B : Nat) (es : List (Wg × Sl3)) (L : List Grp) : Prop := es.length = L.length ∧ ∀ i, i < L.length → (es.getD i ((0, 0, 0), (0, 0, 0))).1 = (L.getD i ((0, 0, 0), [])).1 ∧ (es.getD i ((0, 0, 0), (0, 0, 0))).2.1 < B ∧ Rn w (slv (es.getD i ((0, 0, 0), (0, 0, 0))).2) (L.getD i ((0, 0, 0), [])).2
theorem Al.nil (w : World) (B : Nat) : Al w B [] [] := ⟨rfl, fun i hi => absurd hi (Nat.not_lt_zero i)⟩
theorem Al.below {w w' : World} {B : Nat} {es : List (Wg × Sl3)} {L : List Grp} (h : Al w B es L) (hb : Below w.heap.size w w') : Al w' B es L := ⟨h.1, fun i hi => ⟨(h.2 i hi).1, (h.2 i hi).2.1, (h.2 i hi).2.2.below hb⟩⟩
theorem Al.add {w : World} {B : Nat} {es : List (Wg × Sl3)} {L : List Grp} (h : Al w B es L) {e : Wg × Sl3} {p : Grp} (h1 : e.1 = p.1) (h3 : e.2.1 < B) (h2 : Rn w (slv e.2) p.2) : Al w B (es ++ [e]) (L ++ [p]) := by
  refine ⟨by simp [h.1], fun i hi => ?_⟩
  rw [List.length_append, List.length_singleton] at hi
  by_cases hlt : i < L.length
  · have := h.2 i hlt
    simpa [List.getD, List.getElem?_append_left hlt, List.getElem?_append_left (show i < es.length by rw [h.1]; exact hlt)] using this
  · have e1 : i = L.length := by omega
    subst e1
    have e2 : (es ++ [e]).getD L.length ((0, 0, 0), (0, 0, 0)) = e := by rw [← h.1]; simp [List.getD]
    have e3 : (L ++ [p]).getD L.length ((0, 0, 0), []) = p := by simp [List.getD]
    rw [e2, e3]; exact ⟨h1, h3, h2⟩
theorem Rn.kept {w w' : World} {b : Sl3} {L : List Nat} {r : Option Nat} (h : Rn w (slv b) L) (hg : w.grownBy w' r) (hne : r ≠ some b.1) : Rn w' (slv b) L := by
  obtain ⟨p, c, e, hc, h⟩ := h
  refine ⟨p, c, e, hc, ?_⟩
  rcases h with h | ⟨g, o, e2, h⟩
  · exact .inl h
  · refine .inr ⟨g, o, e2, fun i hi => cell_grown (h i hi) hg ?_⟩
    unfold slv at e
    injection e with e3
    rw [e2] at e3
    injection e3 with e3
    injection e3 with e3 _
    show r ≠ some g
    rw [← e3]; exact hne
theorem Al.young {w w' : World} {B : Nat} {v : Value} {es es' : List (Wg × Sl3)} {L : List Grp} (h : Al w B es L) (hv : Og w B v es') (hg : w.grownBy w' v.ownBlock) : Al w' B es L :=
  ⟨h.1, fun i hi => ⟨(h.2 i hi).1, (h.2 i hi).2.1, (h.2 i hi).2.2.kept hg (fun e => by have h1 := ((Og.row hv).lt _ e).1; have h2 := (h.2 i hi).2.1; omega)⟩⟩
/-- A list of groups that is read. -/
def Rgl (w : World) (v : Value) (L : List Grp) : Prop := ∃ (p : Option Addr) (c B : Nat) (es : List (Wg × Sl3)), v = .slice p L.length c ∧ L.length ≤ c ∧ Al w B es L ∧ (L = [] ∨ ∃ b o, p = some ⟨b, o, none⟩ ∧ ∀ i, i < L.length → ∀ j u, (grE (es.getD i ((0, 0, 0), (0, 0, 0))))[j]? = some u → w.cell? ⟨b, o + i * 4 + j, none⟩ = some u)
theorem Rgl.below {w w' : World} {v : Value} {L : List Grp} (h : Rgl w v L) (hb : Below w.heap.size w w') : Rgl w' v L := by
  obtain ⟨p, c, B, es, e, hc, hA, h⟩ := h
  refine ⟨p, c, B, es, e, hc, hA.below hb, ?_⟩
  rcases h with h | ⟨b, o, e2, h⟩
  · exact .inl h
  · exact .inr ⟨b, o, e2, fun i hi j u hu => cell_below (h i hi j u hu) hb⟩
theorem rgl_og {w : World} {B : Nat} {v : Value} {B' : Nat} {es : List (Wg × Sl3)} {L : List Grp} (h : Og w B v es) (hA : Al w B' es L) : Rgl w v L := by
  by_cases hn : v = .slice none 0 0
  · subst hn
    have h' := h
    unfold Og at h'
    rcases h'.2 with ⟨_, e⟩ | ⟨g, cap, cur, hv, _⟩
    · have : L = [] := List.length_eq_zero_iff.1 (by rw [← hA.1]; exact e)
      subst this
      exact ⟨none, 0, _, es, rfl, Nat.le_refl _, hA, .inl rfl⟩
    · cases hv
  · obtain ⟨g, cap, hv, hg, hgl, hcap, hH⟩ := h.open hn
    refine ⟨_, cap, _, es, by rw [hv, hA.1], by rw [← hA.1]; exact hcap, hA, .inr ⟨g, 0, rfl, fun i hi j u hu => ?_⟩⟩
    have hi' : i < es.length := by rw [hA.1]; exact hi
    have hj : j < 4 := by
      rcases Nat.lt_or_ge j 4 with h | h
      · exact h
      · rw [List.getElem?_eq_none (by exact h)] at hu; cases hu
    have hc := (hH.cell (i := i) (by simpa using hi') hj).1
    rw [hc]
    have e : es.toArray[i]! = es.getD i ((0, 0, 0), (0, 0, 0)) := by simp [List.getD, hi']
    rw [e, List.getElem!_eq_getElem?_getD, hu]
    rfl
theorem rgl_gv {w : World} {B g cap : Nat} {l : List Grp} {vs : Nat → Sl3} (h : Gv w B g cap l vs) : Rgl w (.slice (some ⟨g, 0, none⟩) l.length cap) l := by
  have hg : ∀ i, i < l.length → (((List.range l.length).map fun i => ((l.getD i ((0, 0, 0), [])).1, vs i)).getD i ((0, 0, 0), (0, 0, 0))) = ((l.getD i ((0, 0, 0), [])).1, vs i) := fun i hi => by simp [List.getD, hi]
  refine ⟨_, cap, w.heap.size, (List.range l.length).map (fun i => ((l.getD i ((0, 0, 0), [])).1, vs i)), rfl, h.cap, ⟨by simp, fun i hi => ?_⟩, .inr ⟨g, 0, rfl, fun i hi j u hu => ?_⟩⟩
  · rw [hg i hi]
    exact ⟨rfl, ((h.pls i hi).blk (slv_blk _)).2, (h.pls i hi).rn⟩
  · rw [hg i hi] at hu
    rw [Nat.zero_add]
    exact h.row i hi j u hu
theorem take_snoc {l : List Grp} {t : Nat} (ht : t < l.length) (f : Grp → Bool) : (l.take (t + 1)).filter f = (l.take t).filter f ++ (if f (l.getD t ((0, 0, 0), [])) = true then [l.getD t ((0, 0, 0), [])] else []) := by
  rw [List.take_add_one, List.filter_append]
  congr 1
  simp [List.getD, ht]
  by_cases h : f l[t] = true <;> simp [h]
section
attribute [local irreducible] Calls GB On slv grps shC Og
set_option maxHeartbeats 8000000 in
set_option maxRecDepth 1000000 in
theorem possible_any (k m b : Int) (hm : In64 m) {w : World} {p : Option Addr} {n c : Nat} {ss : Nat → Sn} (HS : SnL w p n ss) (hn : n ≤ 1172812402943) (hI : ∀ i, i < n → InW (ss i).wg) (hv : ∀ i, i < n → (ss i).bv.oneCell' = true) :
    Calls Try.prog 11 #[.agg (shC k m b), .slice p n c] w fun e w' => ∃ v, e = .returned (.tuple #[v, .bool (if fitB k m b n = true then (pss k (hid (shs ss) n) (grps (shs ss) n)).2 else false)]) ∧ Rgl w' v (if fitB k m b n = true then (pss k (hid (shs ss) n) (grps (shs ss) n)).1 else []) ∧ Below w.heap.size w w' := by
  have HL := (show Hid (SnL w p n ss) from HS)
  have HN := (show Hid (n ≤ 1172812402943) from hn)
  have HI := (show Hid (∀ i, i < n → InW (ss i).wg) from hI)
  have HV := (show Hid (∀ i, i < n → (ss i).bv.oneCell' = true) from hv)
  have FT := (show Hid (∀ W : World, _) from fun W => fits_any k m b hm p n c W)
  clear HS hn hI hv hm
  cases hf : fitB k m b n with
  | false =>
    rw [hf] at FT
    simp only [Bool.false_eq_true, if_false]
    clear hf
    go_enter Try.func11, Try.ntmps11
    go_wp2_with (first
      | (refine wpList_bxB rfl _ rfl rfl ?_; intro w1 hG1 hb1 hs1)
      | (refine wpList_ldB rfl _ rfl w.heap.size rfl hG1 Try.underlying23 (size_Sp' _ _ _) ?_)
      | (go_at_call 19; refine (FT.out _).mono ?_; rintro e w3 ⟨rfl, hb3⟩))
    go_ret2
    exact ⟨_, rfl, ⟨none, 0, 0, [], rfl, Nat.le_refl _, Al.nil _ _, .inl rfl⟩, bt hb1 hb3⟩
  | true =>
    have hfk := (fitB_iff k m b n).1 hf
    have HFK := (show Hid (_ ∧ _) from hfk)
    rw [hf] at FT
    rw [if_pos rfl, if_pos rfl]
    clear hf hfk
    go_enter Try.func11, Try.ntmps11
    go_wp2_with (first
      | (refine wpList_bxB rfl _ rfl rfl ?_; intro w1 hG1 hb1 hs1)
      | (refine wpList_ldB rfl _ rfl w.heap.size rfl hG1 Try.underlying23 (size_Sp' _ _ _) ?_)
      | (go_at_call 19; refine (FT.out _).mono ?_; rintro e w3 ⟨rfl, hb3⟩; have HB3 := (show Hid (Below w.heap.size w w3) from bt hb1 hb3))
      | (go_at_call 20; refine (hidden_any (HL.out.below HB3.out) HN.out HV.out).mono ?_; rintro e w4 ⟨rfl, hb4⟩; have HB4 := (show Hid (Below w.heap.size w w4) from bt HB3.out hb4))
      | (go_at_call 13; refine (groups_any (HL.out.below HB4.out) HN.out HI.out).mono ?_; rintro e w5 ⟨g5, cap5, l5, vs5, rfl, hI5, hV5, hb5⟩; obtain rfl := hI5.eq (isG_grps _ _)))
    have HI5 := (show Hid (IsG (shs ss) n (grps (shs ss) n)) from hI5)
    have HL5 := (show Hid ((grps (shs ss) n).length ≤ 1172812402943) from by have := hI5.lenG; have := HN.out; show _ ≤ _; omega)
    have HH5 := (show Hid (hid (shs ss) n ≤ n) from hid_le _ _)
    have HQ5 := (show Hid (∀ q ∈ grps (shs ss) n, q.2.length ≤ n) from hI5.len)
    have HV5 := (show Hid (Gv w5 w4.heap.size g5 cap5 (grps (shs ss) n) vs5) from hV5)
    have HB5 := (show Hid (Below w.heap.size w w5) from bt HB4.out hb5)
    have HK5 := (show Hid (w5.cell? ⟨w.heap.size, 0, none⟩ = some (.int .i64 k)) from by show _ = _; rw [(((hG1.below hb3).below hb4).below hb5).cell]; unfold shC; rfl)
    clear hI5 hV5 hG1 FT
    generalize hgl : (grps (shs ss) n) = l at *
    have HEQ := (show Hid (grps (shs ss) n = l) from hgl)
    generalize hh9 : hid (shs ss) n = h9 at *
    have HH := (show Hid (hid (shs ss) n = h9) from hh9)
    clear hgl hh9
    go_loopw [6, 19] (fun v i wr => ∃ (t : Nat) (es : List (Wg × Sl3)), t ≤ l.length ∧ i = .int .i64 (t : Int) ∧ Hid (∀ j, j < t → cnts k (l.getD j ((0, 0, 0), [])) = false) ∧ Hid (Og wr w5.heap.size v es) ∧ Hid (Al wr w5.heap.size es ((l.take t).filter (pq k h9))) ∧ Hid (Below w5.heap.size w5 wr)) (fun _ i _ => l.length - (intOf i).toNat)
    case atStart => exact ⟨0, [], Nat.zero_le _, rfl, fun j hj => by omega, by show Og _ _ _ _; unfold Og; exact World.ownsRow_nil _ _ _ _, by show Al _ _ _ _; rw [List.take_zero]; exact Al.nil _ _, Below.refl _ _⟩
    case round =>
      obtain ⟨t, es, ht, rfl, hN, HO, HA, hB⟩ := hrel
      obtain ⟨W0, hW0⟩ : ∃ W0, W0 = wr := ⟨_, rfl⟩
      subst hW0
      by_cases hlt : t < l.length
      · have hi : (t : Int) < (l.length : Int) := by omega
        have hrun := (HV5.out.below hB.out).run hlt
        have hpl := (HV5.out.below hB.out).pls t hlt
        have hsl := on_slen hpl
        have HBB0 := (show Hid ((vs5 t).1 < w5.heap.size) from ((HV5.out.pls t hlt).blk (slv_blk _)).2)
        have WT := (show Hid (wrap64 ((t : Int) + 1) = ((t + 1 : Nat) : Int)) from by have := HL5.out; show _ = _; unfold wrap64; omega)
        have HT := (show Hid (t < l.length) from hlt)
        have HF := (show Hid (cnts k (l.getD t ((0, 0, 0), [])) = true → l.findIdx? (cnts k) = some t) from fun h => findIdx_first hlt hN.out h)
        have HNX := (show Hid (cnts k (l.getD t ((0, 0, 0), [])) = false → ∀ j, j < t + 1 → cnts k (l.getD j ((0, 0, 0), [])) = false) from fun h j hj => by
          by_cases e : j = t
          · rw [e]; exact h
          · exact hN.out j (by omega))
        have TS := (show Hid _ from take_snoc hlt (pq k h9))
        have HK := (show Hid (W0.cell? ⟨w.heap.size, 0, none⟩ = some (.int .i64 k)) from cell_below HK5.out hB.out)
        have HQL := (show Hid ((l.getD t ((0, 0, 0), [])).2.length ≤ n) from HQ5.out _ (by simp [List.getD, hlt]))
        have HES := (show Hid (es.length + 1 ≤ 2932031007402) from by
          have h1 := HA.out.1
          have h2 := List.length_filter_le (pq k h9) (l.take t)
          rw [List.length_take] at h2
          have h3 := HL5.out
          show _ ≤ _
          omega)
        have HNB := (show Hid (∀ (u : Value) (es' : List (Wg × Sl3)), Og W0 w5.heap.size u es' → u.ownBlock ≠ some W0.heap.size) from fun u es' h e => by have := ((Og.row h).lt _ e).2; omega)
        generalize l.getD t ((0, 0, 0), []) = q at *
        obtain ⟨qk, qL⟩ := q
        obtain ⟨b0, hb0⟩ : ∃ b0, b0 = vs5 t := ⟨_, rfl⟩
        rw [← hb0] at hrun hpl hsl HBB0
        unfold grE at hrun
        rw [hsl] at hrun
        have HR := (show Hid (Rn W0 (slv (b0.1, qL.length, b0.2.2)) qL) from by
          have h1 := (on_shape hpl).rn
          show Rn _ _ _
          unfold slv
          exact h1)
        have HBB := (show Hid (b0.1 < w5.heap.size) from HBB0.out)
        have WS : wrap64 ((qL.length : Int) + (h9 : Int)) = (qL.length : Int) + (h9 : Int) := by
          have h1 := HQL.out; have h2 := HH5.out; have h3 := HN.out
          simp only at h1
          unfold wrap64; omega
        clear hb0 hpl hlt ht
        cases hc : cnts k (qk, qL) with
        | true =>
          have hcd : ((qL.length : Int) ≥ k) := by have := hc; unfold cnts at this; simpa using this
          have hpd : ((qL.length : Int) + (h9 : Int) ≥ k) := by omega
          have hp : pq k h9 (qk, qL) = true := by unfold pq; simp; omega
          have HE := (show Hid _ from HF.out hc)
          go_wp2_with (first
            | (refine wpList_ldAt rfl _ _ rfl g5 (t * 4) rfl _ hrun ?_)
            | (refine wpList_alB rfl rfl gr0 ?_; intro w6 hG6 hb6 hs6)
            | (refine wpList_stB (cs := #[.int .i64 qk.1, .int .i64 qk.2.1, .int .i64 qk.2.2, .slice (some ⟨b0.1, 0, none⟩) qL.length b0.2.2]) rfl _ _ rfl rfl W0.heap.size rfl rfl hG6 size_Gr rfl (by simp [Value.oneCell']) ?_; intro w7 hG7 hg7 hs7; have HB7 := (show Hid (Below W0.heap.size W0 w7) from grown_below hb6 hg7 hb6.size (Nat.le_refl _)); have c3 := hG7.cell 3; simp only [List.getElem?_toArray, List.getElem?_cons_zero, List.getElem?_cons_succ] at c3; have ck := cell_below HK.out HB7.out)
            | (refine wpList_ldB rfl _ rfl W0.heap.size rfl hG7 Try.underlying49 size_Gr ?_; have HB8 := (show Hid (Below W0.heap.size W0 (w7.alloc (.cells #[.int .i64 qk.1, .int .i64 qk.2.1, .int .i64 qk.2.2, .slice (some ⟨b0.1, 0, none⟩) qL.length b0.2.2] 49))) from balloc HB7.out _); have HO8 := (show Hid (Og (w7.alloc (.cells #[.int .i64 qk.1, .int .i64 qk.2.1, .int .i64 qk.2.2, .slice (some ⟨b0.1, 0, none⟩) qL.length b0.2.2] 49)) w5.heap.size u6 es) from HO.out.below HB8.out); have HN8 := (show Hid (GB (w7.alloc (.cells #[.int .i64 qk.1, .int .i64 qk.2.1, .int .i64 qk.2.2, .slice (some ⟨b0.1, 0, none⟩) qL.length b0.2.2] 49)) w7.heap.size 49 (grE (qk, (b0.1, qL.length, b0.2.2))).toArray) from GB.new w7 _ _))
            | (at_builtin; refine wpList_apG rfl (.tmp 31) (.tmp 33) rfl w5.heap.size u6 es (qk, (b0.1, qL.length, b0.2.2)) rfl HO8.out w7.heap.size 1 rfl HN8.out HES.out (Nat.le_trans hB.out.size HB8.out.size) ?_; intro v9 w9 hO9 hg9 hn9; have HB9 := (show Hid (Below w5.heap.size w5 w9) from (bt hB.out HB8.out).grown hg9 (Nat.le_trans hB.out.size HB8.out.size) (fun j hj => ((Og.row HO8.out).lt j hj).1)); have HA9 := (show Hid (Al w9 w5.heap.size (es ++ [(qk, (b0.1, qL.length, b0.2.2))]) ((l.take (t + 1)).filter (pq k h9))) from by show Al _ _ _ _; rw [TS.out, hp, if_pos rfl]; exact Al.young ((HA.out.below HB8.out).add rfl HBB.out (HR.out.below HB8.out)) HO8.out hg9); have CK9 := (show Hid (w9.cell? ⟨w.heap.size, 0, none⟩ = some (.int .i64 k)) from cell_below HK5.out HB9.out); have C39 := (show Hid (w9.cell? ⟨W0.heap.size, 3, none⟩ = some (.slice (some ⟨b0.1, 0, none⟩) qL.length b0.2.2)) from cell_grown (cell_below c3 ((Below.refl _ _).alloc (Nat.le_refl _) _)) hg9 (HNB.out u6 es HO.out)); have ck9 := CK9.out; have c39 := C39.out; go_frame)
            | go_in)
          go_ret2
          unfold pss
          rw [HEQ.out, HH.out, HE.out]
          exact ⟨_, rfl, rgl_og hO9 HA9.out, bt HB5.out HB9.out⟩
        | false =>
          have hcd : ¬ ((qL.length : Int) ≥ k) := by have := hc; unfold cnts at this; simpa using this
          have HE := (show Hid _ from HNX.out hc)
          cases hp : pq k h9 (qk, qL) with
          | true =>
            have hpd : ((qL.length : Int) + (h9 : Int) ≥ k) := by have := hp; unfold pq at this; simpa using this
            go_wp2_with (first
              | (refine wpList_ldAt rfl _ _ rfl g5 (t * 4) rfl _ hrun ?_)
              | (refine wpList_alB rfl rfl gr0 ?_; intro w6 hG6 hb6 hs6)
              | (refine wpList_stB (cs := #[.int .i64 qk.1, .int .i64 qk.2.1, .int .i64 qk.2.2, .slice (some ⟨b0.1, 0, none⟩) qL.length b0.2.2]) rfl _ _ rfl rfl W0.heap.size rfl rfl hG6 size_Gr rfl (by simp [Value.oneCell']) ?_; intro w7 hG7 hg7 hs7; have HB7 := (show Hid (Below W0.heap.size W0 w7) from grown_below hb6 hg7 hb6.size (Nat.le_refl _)); have c3 := hG7.cell 3; simp only [List.getElem?_toArray, List.getElem?_cons_zero, List.getElem?_cons_succ] at c3; have ck := cell_below HK.out HB7.out)
              | (refine wpList_ldB rfl _ rfl W0.heap.size rfl hG7 Try.underlying49 size_Gr ?_; have HB8 := (show Hid (Below W0.heap.size W0 (w7.alloc (.cells #[.int .i64 qk.1, .int .i64 qk.2.1, .int .i64 qk.2.2, .slice (some ⟨b0.1, 0, none⟩) qL.length b0.2.2] 49))) from balloc HB7.out _); have HO8 := (show Hid (Og (w7.alloc (.cells #[.int .i64 qk.1, .int .i64 qk.2.1, .int .i64 qk.2.2, .slice (some ⟨b0.1, 0, none⟩) qL.length b0.2.2] 49)) w5.heap.size u6 es) from HO.out.below HB8.out); have HN8 := (show Hid (GB (w7.alloc (.cells #[.int .i64 qk.1, .int .i64 qk.2.1, .int .i64 qk.2.2, .slice (some ⟨b0.1, 0, none⟩) qL.length b0.2.2] 49)) w7.heap.size 49 (grE (qk, (b0.1, qL.length, b0.2.2))).toArray) from GB.new w7 _ _))
              | (at_builtin; refine wpList_apG rfl (.tmp 31) (.tmp 33) rfl w5.heap.size u6 es (qk, (b0.1, qL.length, b0.2.2)) rfl HO8.out w7.heap.size 1 rfl HN8.out HES.out (Nat.le_trans hB.out.size HB8.out.size) ?_; intro v9 w9 hO9 hg9 hn9; have HB9 := (show Hid (Below w5.heap.size w5 w9) from (bt hB.out HB8.out).grown hg9 (Nat.le_trans hB.out.size HB8.out.size) (fun j hj => ((Og.row HO8.out).lt j hj).1)); have HA9 := (show Hid (Al w9 w5.heap.size (es ++ [(qk, (b0.1, qL.length, b0.2.2))]) ((l.take (t + 1)).filter (pq k h9))) from by show Al _ _ _ _; rw [TS.out, hp, if_pos rfl]; exact Al.young ((HA.out.below HB8.out).add rfl HBB.out (HR.out.below HB8.out)) HO8.out hg9); have CK9 := (show Hid (w9.cell? ⟨w.heap.size, 0, none⟩ = some (.int .i64 k)) from cell_below HK5.out HB9.out); have C39 := (show Hid (w9.cell? ⟨W0.heap.size, 3, none⟩ = some (.slice (some ⟨b0.1, 0, none⟩) qL.length b0.2.2)) from cell_grown (cell_below c3 ((Below.refl _ _).alloc (Nat.le_refl _) _)) hg9 (HNB.out u6 es HO.out)); have ck9 := CK9.out; have c39 := C39.out; go_frame)
              | go_in)
            go_roundw
            case rel => exact ⟨t + 1, _, HT.out, by rw [WT.out], HE, hO9, HA9, HB9⟩
            case measure => rw [WT.out]; exact meas_v17 HT.out
          | false =>
            have hpd : ¬ ((qL.length : Int) + (h9 : Int) ≥ k) := by have := hp; unfold pq at this; simpa using this
            go_wp2_with (first
              | (refine wpList_ldAt rfl _ _ rfl g5 (t * 4) rfl _ hrun ?_)
              | (refine wpList_alB rfl rfl gr0 ?_; intro w6 hG6 hb6 hs6)
              | (refine wpList_stB (cs := #[.int .i64 qk.1, .int .i64 qk.2.1, .int .i64 qk.2.2, .slice (some ⟨b0.1, 0, none⟩) qL.length b0.2.2]) rfl _ _ rfl rfl W0.heap.size rfl rfl hG6 size_Gr rfl (by simp [Value.oneCell']) ?_; intro w7 hG7 hg7 hs7; have HB7 := (show Hid (Below W0.heap.size W0 w7) from grown_below hb6 hg7 hb6.size (Nat.le_refl _)); have c3 := hG7.cell 3; simp only [List.getElem?_toArray, List.getElem?_cons_zero, List.getElem?_cons_succ] at c3; have ck := cell_below HK.out HB7.out))
            go_roundw
            case rel => exact ⟨t + 1, es, HT.out, by rw [WT.out], HE, HO.out.below HB7.out, by show Al _ _ _ _; rw [TS.out, hp]; simp only [Bool.false_eq_true, if_false, List.append_nil]; exact HA.out.below HB7.out, bt hB.out HB7.out⟩
            case measure => rw [WT.out]; exact meas_v17 HT.out
      · obtain rfl : t = l.length := by omega
        have HE := (show Hid _ from findIdx_none hN.out)
        have HA' := HA.out
        rw [List.take_length] at HA'
        have HA2 := (show Hid _ from HA')
        clear HA HA' hN
        go_wp2_with (fail)
        go_ret2
        unfold pss
        rw [HEQ.out, HH.out, HE.out]
        exact ⟨_, rfl, rgl_og HO.out HA2.out, bt HB5.out hB.out⟩
end
end Go.Proofs.Ytefomnlgpldgnaa
