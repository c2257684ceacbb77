/-
  Layer 11's laws: 'follow' of a trace.
-/
import Derived.Test.YtaddgmbglhdfdaaLr11
import Derived.BigQuiet
namespace Go.Proofs.Ytaddgmbglhdfdaa
open Go.RowKit Go.Maps Go.Sort
/-- A trace with just its own blocks, from now on. -/
theorem TrAt.now {w0 w : World} {H : Nat → Prop} {tb : Nat} {t : Tr} (h : TrAt w0 H tb t w) : ∃ K : Nat → Prop, TrAt w K tb t w ∧ ∀ b, K b → (H b ∨ w0.heap.size ≤ b) ∧ b < w.heap.size := by
  obtain ⟨R, hq, hr⟩ := h.ex
  have hk : ∀ b, (b = tb ∨ ∃ i, i < 5 + t.nm.length ∧ (R i).v.ownBlock = some b) → (H b ∨ w0.heap.size ≤ b) ∧ b < w.heap.size := by
    rintro b (rfl | ⟨i, hi, e⟩)
    · exact ⟨.inl hq.hb, hq.gb.lt⟩
    · exact ⟨hq.hg i hi b e, hq.rw'.lt hi e⟩
  exact ⟨fun b => b = tb ∨ ∃ i, i < 5 + t.nm.length ∧ (R i).v.ownBlock = some b, ⟨h.wf, R, ⟨hq.rw', hq.gb, fun i hi g e => .inl (.inr ⟨i, hi, e⟩), Tn.refl _ _, .inl rfl, fun b hb => (hk b hb).2, hq.n5, hq.ty⟩, hr⟩, hk⟩
theorem TrAt.base {w w1 : World} {H : Nat → Prop} {tb : Nat} {t : Tr} (h : TrAt w H tb t w) (hB : Below w.heap.size w w1) : TrAt w1 H tb t w1 := by
  obtain ⟨R, hq, hr⟩ := h.ex
  have hz := hB.size
  refine ⟨h.wf, R, ⟨hq.rw'.below hB, hq.gb.below hB, fun i hi g e => ?_, Tn.refl _ _, hq.hb, fun b hb => Nat.lt_of_lt_of_le (hq.hl b hb) hz, hq.n5, hq.ty⟩, hr⟩
  rcases hq.hg i hi g e with h9 | h9
  · exact .inl h9
  · have := hq.rw'.lt hi e
    omega
theorem TrAt.back {w w1 w' : World} {H : Nat → Prop} {tb : Nat} {t : Tr} (h : TrAt w1 H tb t w') (hB : Below w.heap.size w w1) (hl : ∀ b, H b → b < w.heap.size) : TrAt w H tb t w' := by
  obtain ⟨R, hq, hr⟩ := h.ex
  have hz := hB.size
  refine ⟨h.wf, R, ⟨hq.rw', hq.gb, fun i hi g e => ?_, (Tn.of_below hB).trans hq.tn, hq.hb, hl, hq.n5, hq.ty⟩, hr⟩
  rcases hq.hg i hi g e with h9 | h9
  · exact .inl h9
  · exact .inr (by omega)
theorem TrAt.tn {w0 w : World} {H : Nat → Prop} {tb : Nat} {t : Tr} (h : TrAt w0 H tb t w) : Tn H w0 w := by
  obtain ⟨R, hq, _⟩ := h.ex
  exact hq.tn
theorem TrAt.hl {w0 w : World} {H : Nat → Prop} {tb : Nat} {t : Tr} (h : TrAt w0 H tb t w) : ∀ b, H b → b < w0.heap.size := by
  obtain ⟨R, hq, _⟩ := h.ex
  exact hq.hl
/-- How much a trace holds. -/
structure Tr.Le (t : Tr) (N : Nat) : Prop where
  n : t.nm.length ≤ N
  d : t.da.length ≤ N
  l : ∀ i : Nat, (t.lds.getD i []).length ≤ N
theorem Tr.Le.at' {t : Tr} {N : Nat} (h : t.Le N) (x : Tx) : (t.at' x).Le (N + 1) := by
  unfold Tr.at'
  split
  · exact ⟨by have := h.n; omega, by have := h.d; omega, fun i => by have := h.l i; omega⟩
  · refine ⟨?_, ?_, fun i => ?_⟩
    · show (t.nm ++ [x]).length ≤ _
      have := h.n
      simp; omega
    · show t.da.length ≤ _
      have := h.d
      omega
    · show ((t.lds ++ [[]]).getD i []).length ≤ _
      rw [List.getD, get_app]
      split
      · have := h.l i; rw [List.getD] at this; omega
      · split <;> simp
theorem Tr.Le.leadAt {t : Tr} {N : Nat} (h : t.Le N) (i : Nat) (o : Option Nat) : (t.leadAt i o).Le (N + 1) := by
  refine ⟨by show t.nm.length ≤ _; have := h.n; omega, by show t.da.length ≤ _; have := h.d; omega, fun j => ?_⟩
  cases o with
  | none => show (t.lds.getD j []).length ≤ _; have := h.l j; omega
  | some b =>
    show ((t.lds.set i (t.lds.getD i [] ++ [b])).getD j []).length ≤ _
    rw [List.getD, set_get]
    by_cases e : i = j
    · subst e
      rw [if_pos rfl]
      split
      · simp only [Option.getD_some, List.length_append, List.length_singleton]
        have := h.l i; omega
      · simp
    · rw [if_neg e]
      have := h.l j
      rw [List.getD] at this
      omega
theorem Tr.Le.bod {t : Tr} {N : Nat} (h : t.Le N) (d : Tx) (s : Nat) : (t.bod d s).Le (N + 1) := by
  refine ⟨by show t.nm.length ≤ _; have := h.n; omega, ?_, fun j => by show (t.lds.getD j []).length ≤ _; have := h.l j; omega⟩
  show (t.da ++ [d]).length ≤ _
  have := h.d
  simp; omega
theorem Tr.Le.mono {t : Tr} {N M : Nat} (h : t.Le N) (hN : N ≤ M) : t.Le M := ⟨by have := h.n; omega, by have := h.d; omega, fun i => by have := h.l i; omega⟩
theorem bod_at {u : Tr} {x : Tx} (h : x ∈ u.nm) (d : Tx) (s : Nat) : (u.bod d s).at' x = u.bod d s := Tr.at_in h
section
attribute [local irreducible] Calls GB Ac.v
set_option maxHeartbeats 4000000 in
set_option maxRecDepth 1000000 in
theorem tfollow_any {w : World} {H : Nat → Prop} {tb : Nat} {t : Tr} (h : TrAt w H tb t w) (k : Int) (s : Ac) (hL : t.Le 90000000) (h15 : k = 15 → 0 ≤ s.n) : Calls Try.prog 26 #[.pointer (some ⟨tb, 0, none⟩), .agg (s.v k)] w fun e w' => (∃ r, e = .returned r) ∧ ∃ t', Fol t k s.x s.y s.n t' ∧ TrAt w H tb t' w' := by
  have HH := (show Hid (TrAt w H tb t w ∧ t.Le 90000000 ∧ (k = 15 → 0 ≤ s.n)) from ⟨h, hL, h15⟩)
  clear h hL h15
  go_enter Try.func26, Try.ntmps26
  go_upto_region 1 with (refine wpList_bxB (cs := s.v k) rfl _ rfl rfl ?_; intro w1 hG1 hb1 hs1)
  have B1 := (show Hid (Below w.heap.size w w1 ∧ ∀ b, H b → b < w.heap.size) from ⟨hb1, HH.out.1.hl⟩)
  have T1 := (show Hid (TrAt w1 H tb t w1) from HH.out.1.base hb1)
  have GX := (show Hid (∀ X t', TrAt w1 H tb t' X → GB X w.heap.size 46 (s.v k)) from fun X t' hX => hG1.tn hX.tn (fun hc => by have := B1.out.2 _ hc; omega))
  have EN := (show Hid (∀ X t', Fol t k s.x s.y s.n t' → TrAt w1 H tb t' X → ∃ t', Fol t k s.x s.y s.n t' ∧ TrAt w H tb t' X) from fun X t' hF hX => ⟨t', hF, hX.back B1.out.1 B1.out.2⟩)
  have c1 := (ac_c hG1).2.1
  clear hG1 hb1 hs1
  have PL := (show Hid (Calls Try.prog 62 #[.pointer (some ⟨tb, 0, none⟩), encStr s.x] w1 fun e w' => ∃ i : Nat, e = .returned (.int .i64 (i : Int)) ∧ (t.at' s.x).nm[i]? = some s.x ∧ TrAt w1 H tb (t.at' s.x) w' ∧ (s.x ∈ t.nm → w' = w1)) from place_any T1.out s.x (by have := HH.out.2.1.n; omega))
  go_upto_region 2 with (go_at_call 62; refine PL.out.mono ?_; rintro e x1 ⟨i, rfl, hi, hT, _⟩)
  obtain ⟨u, hu⟩ : ∃ u, u = t.at' s.x := ⟨_, rfl⟩
  rw [← hu] at hi hT
  have HU := (show Hid (u = t.at' s.x ∧ u.nm[i]? = some s.x ∧ s.x ∈ u.nm ∧ u.Le 90000001) from ⟨hu, hi, List.mem_of_getElem? hi, by rw [hu]; exact HH.out.2.1.at' s.x⟩)
  have T2 := (show Hid (TrAt w1 H tb u x1) from hT)
  obtain ⟨R, hq, hr⟩ := hT.ex
  have hil : i < u.nm.length := (List.getElem?_eq_some_iff.1 hi).1
  obtain ⟨g1, d1, e1, e3⟩ := TrR.ldat hT.wf hq hr hil
  obtain ⟨n, hnn⟩ : ∃ n, n = u.nm.length := ⟨_, rfl⟩
  have hii : (i : Int) < (n : Int) := by omega
  have k1 := hq.cells.2.1
  rw [e1, ← hnn] at k1
  obtain ⟨z, hz, hz0, hzb⟩ := lvv_z (u.ld.getD i none)
  have HZ := (show Hid (lvv (u.ld.getD i none) = .int .i64 z ∧ (u.ld.getD i none = none → z = -1) ∧ (∀ b, u.ld.getD i none = some b → z = (b : Int))) from ⟨hz, hz0, hzb⟩)
  rw [hz] at e3
  have HBD := (show Hid (∀ b, u.ld.getD i none = some b → b < u.da.length) from fun b e => hT.wf.b1 i b (by
    have hl : i < u.ld.length := by rw [hT.wf.l1]; exact hil
    rw [List.getD, List.getElem?_eq_getElem hl] at e
    rw [List.getElem?_eq_getElem hl]
    exact congrArg some e))
  obtain ⟨a0, a1, a2, a3, _⟩ := ac_c (GX.out x1 u hT)
  have LE := (show Hid (∀ X t' x o, TrAt w1 H tb t' X → t'.Le 90000003 → (∀ b, o = some b → b < t'.da.length) → Calls Try.prog 63 #[.pointer (some ⟨tb, 0, none⟩), encStr x, lvv o] X fun e w' => (∃ r, e = .returned r) ∧ ∃ j : Nat, (t'.at' x).nm[j]? = some x ∧ TrAt w1 H tb ((t'.at' x).leadAt j o) w') from fun X t' x o hX hl ho => lead_any hX x o ho (by have := hl.n; omega) (by have := hl.d; omega) (fun j => by have := hl.l j; omega))
  clear hu hi hT hq hr e1 hnn hil hz hz0 hzb c1 PL
  by_cases e0 : k = 0
  · subst e0
    have BO := (show Hid (∀ X, TrAt w1 H tb u X → Calls Try.prog 59 #[.pointer (some ⟨tb, 0, none⟩), .string ⟨#[]⟩, .int .i64 0] X fun e w' => e = .returned (.int .i64 (u.da.length : Int)) ∧ TrAt w1 H tb (u.bod [] 0) w') from fun X hX => body_any hX [] 0 (by have := HU.out.2.2.2.d; omega))
    have LD := (show Hid (∀ X, TrAt w1 H tb (u.bod [] 0) X → Calls Try.prog 63 #[.pointer (some ⟨tb, 0, none⟩), encStr s.x, .int .i64 (u.da.length : Int)] X fun e w' => (∃ r, e = .returned r) ∧ ∃ t', Fol t 0 s.x s.y s.n t' ∧ TrAt w1 H tb t' w') from fun X hX => (LE.out X _ s.x (some u.da.length) hX ((HU.out.2.2.2.bod [] 0).mono (by omega)) (fun b e => by injection e with e; simp [Tr.bod]; omega)).mono (by
      rintro e w' ⟨h1, j, h2, h3⟩
      rw [bod_at HU.out.2.2.1] at h2 h3
      refine ⟨h1, _, ⟨j, ?_, ?_⟩, h3⟩
      · rw [← HU.out.1]; exact h2
      · rw [if_pos rfl, ← HU.out.1]))
    obtain ⟨ud, hud⟩ : ∃ ud, ud = u.da.length := ⟨_, rfl⟩
    rw [← hud] at BO LD
    clear hud
    go_wp2_with fail
    have KS := (show Hid (x1.drew.cell? ⟨w.heap.size, 1, none⟩ = some (encStr s.x)) from a1)
    go_region_held3 (fun X => X.cell? ⟨w.heap.size, 1, none⟩ = some (encStr s.x)) (first | exact KS.out | exact KT.out | exact KU.out)
      (first
        | (go_at_call 59; refine (BO.out _ (T2.out.below (Below.refl _ x1).drew)).mono ?_; rintro e x2 ⟨rfl, h2⟩; have T3 := (show Hid (TrAt w1 H tb (u.bod [] 0) x2) from h2); have KT := (show Hid (x2.cell? ⟨w.heap.size, 1, none⟩ = some (encStr s.x)) from (ac_c (GX.out x2 _ h2)).2.1); clear h2)
        | (go_at_call 63; refine (LD.out _ T3.out).mono ?_; rintro e x3 ⟨⟨r3, rfl⟩, t3, hF3, hT3⟩; have KU := (show Hid (x3.cell? ⟨w.heap.size, 1, none⟩ = some (encStr s.x)) from (ac_c (GX.out x3 _ hT3)).2.1)))
    all_goals
      go_wp2_with fail
      go_end0
      exact ⟨⟨_, rfl⟩, EN.out _ _ hF3 hT3⟩
  by_cases e2 : k = 2
  · subst e2
    cases ho : u.ld.getD i none with
    | none =>
      obtain rfl : z = -1 := HZ.out.2.1 ho
      have HO := (show Hid (Fol t 2 s.x s.y s.n u) from ⟨i, by rw [← HU.out.1]; exact HU.out.2.1, by rw [if_neg e0, if_pos rfl, ← HU.out.1, ho]⟩)
      clear ho e0
      go_wp2_with fail
      go_end0
      exact ⟨⟨_, rfl⟩, EN.out _ _ HO.out T2.out⟩
    | some b =>
      obtain rfl : z = (b : Int) := HZ.out.2.2 b ho
      have hb0 : (0 : Int) ≤ (b : Int) := by omega
      have hbd := HBD.out b ho
      obtain ⟨R1, hq1, hr1⟩ := T2.out.ex
      obtain ⟨g3, c3, g4, c4, q1, q2, q3, q4, q5, q6⟩ := TrR.bd T2.out.wf hq1 hr1 hbd
      obtain ⟨nd, hnd⟩ : ∃ nd, nd = u.da.length := ⟨_, rfl⟩
      have hbn : (b : Int) < (nd : Int) := by omega
      have k3 := hq1.cells.2.2.2.1
      rw [q1, ← hnd] at k3
      have k4 := hq1.cells.2.2.2.2
      rw [q4, ← hnd] at k4
      obtain ⟨y, hy⟩ : ∃ y, y = u.da.getD b [] := ⟨_, rfl⟩
      rw [← hy] at q2
      have SA := (show Hid (TrAt w1 H tb (u.setS b y.length) (x1.setCell ⟨g4, b, none⟩ (.int .i64 (y.length : Int))).drew ∧ Fol t 2 s.x s.y s.n (u.setS b y.length)) from by
        obtain ⟨R', m1, m2⟩ := TrAt.setA hq1 hr1 (b := b) q4 y.length
        have hw := T2.out.wf
        refine ⟨TrAt.below ⟨⟨hw.l1, hw.l2, by simp [Tr.setS, hw.l3], hw.nd, hw.b1, hw.b2⟩, R', m1, m2⟩ (Below.refl _ _).drew, i, by rw [← HU.out.1]; exact HU.out.2.1, ?_⟩
        rw [if_neg e0, if_pos rfl, ← HU.out.1, ho, hy])
      clear ho e0 hbd hq1 hr1 q1 q4 hnd hy
      go_wp2_with fail
      go_region
      go_wp2_with fail
      go_end0
      exact ⟨⟨_, rfl⟩, EN.out _ _ SA.out.2 SA.out.1⟩
  by_cases e3' : k = 3
  · subst e3'
    by_cases hxy : s.x = s.y
    · have dxy : (s.x == s.y) = true := by simpa using hxy
      have HO := (show Hid (Fol t 3 s.x s.y s.n u) from ⟨i, by rw [← HU.out.1]; exact HU.out.2.1, by rw [if_neg e0, if_neg e2, if_pos rfl, if_pos hxy, ← HU.out.1]⟩)
      clear e0 e2 hxy
      go_wp2_with fail
      go_end0
      exact ⟨⟨_, rfl⟩, EN.out _ _ HO.out T2.out⟩
    · have dxy : (s.x == s.y) = false := by simpa using hxy
      have L1 := (show Hid (Calls Try.prog 63 #[.pointer (some ⟨tb, 0, none⟩), encStr s.y, .int .i64 z] x1 fun e w' => (∃ r, e = .returned r) ∧ ∃ j : Nat, (u.at' s.y).nm[j]? = some s.y ∧ TrAt w1 H tb ((u.at' s.y).leadAt j (u.ld.getD i none)) w') from by rw [← HZ.out.1]; exact LE.out x1 u s.y _ T2.out (HU.out.2.2.2.mono (by omega)) HBD.out)
      have L2 := (show Hid (∀ X j, (u.at' s.y).nm[j]? = some s.y → TrAt w1 H tb ((u.at' s.y).leadAt j (u.ld.getD i none)) X → Calls Try.prog 63 #[.pointer (some ⟨tb, 0, none⟩), encStr s.x, .int .i64 (-1)] X fun e w' => (∃ r, e = .returned r) ∧ ∃ t', Fol t 3 s.x s.y s.n t' ∧ TrAt w1 H tb t' w') from fun X j hj hX => by
        have hix : ((u.at' s.y).leadAt j (u.ld.getD i none)).nm[i]? = some s.x := by
          show (u.at' s.y).nm[i]? = _
          unfold Tr.at'
          split
          · exact HU.out.2.1
          · show (u.nm ++ [s.y])[i]? = _
            rw [get_app, if_pos (List.getElem?_eq_some_iff.1 HU.out.2.1).1]
            exact HU.out.2.1
        refine (LE.out X _ s.x none hX (((HU.out.2.2.2.at' s.y).leadAt j _).mono (by omega)) (fun b e => by cases e)).mono ?_
        rintro e w' ⟨h1, i', h2, h3⟩
        rw [Tr.at_in (List.mem_of_getElem? hix)] at h2 h3
        have e9 := hX.wf.uniq h2 hix
        subst e9
        refine ⟨h1, _, ⟨i', by rw [← HU.out.1]; exact HU.out.2.1, ?_⟩, h3⟩
        rw [if_neg e0, if_neg e2, if_pos rfl, if_neg hxy, ← HU.out.1]
        exact ⟨j, hj, rfl⟩)
      clear e0 e2 hxy
      have U0 := (show Hid True from trivial)
      go_wp2_with (first
        | (have hx := U0; go_at_call 63; refine L1.out.mono ?_; rintro e x2 ⟨⟨r2, rfl⟩, j, hj, hT2⟩; have U1 := (show Hid ((u.at' s.y).nm[j]? = some s.y ∧ TrAt w1 H tb ((u.at' s.y).leadAt j (u.ld.getD i none)) x2) from ⟨hj, hT2⟩); have b1 := (ac_c (GX.out x2 _ hT2)).2.1; clear hx U0 hj hT2)
        | (have hx := U1; go_at_call 63; refine (L2.out x2 j U1.out.1 U1.out.2).mono ?_; rintro e x3 ⟨⟨r3, rfl⟩, t3, hF3, hT3⟩; clear hx U1))
      go_end0
      exact ⟨⟨_, rfl⟩, EN.out _ _ hF3 hT3⟩
  by_cases e4 : k = 4
  · subst e4
    have L1 := (show Hid (Calls Try.prog 63 #[.pointer (some ⟨tb, 0, none⟩), encStr s.x, .int .i64 (-1)] x1 fun e w' => (∃ r, e = .returned r) ∧ ∃ t', Fol t 4 s.x s.y s.n t' ∧ TrAt w1 H tb t' w') from (LE.out x1 u s.x none T2.out (HU.out.2.2.2.mono (by omega)) (fun b e => by cases e)).mono (by
      rintro e w' ⟨h1, j, h2, h3⟩
      rw [Tr.at_in HU.out.2.2.1] at h2 h3
      refine ⟨h1, _, ⟨j, by rw [← HU.out.1]; exact h2, ?_⟩, h3⟩
      rw [if_neg e0, if_neg e2, if_neg e3', if_pos rfl, ← HU.out.1]))
    clear e0 e2 e3'
    go_wp2_with (go_at_call 63; refine L1.out.mono ?_; rintro e x3 ⟨⟨r3, rfl⟩, t3, hF3, hT3⟩)
    go_end0
    exact ⟨⟨_, rfl⟩, EN.out _ _ hF3 hT3⟩
  by_cases e5 : k = 5
  · subst e5
    have L1 := (show Hid (Calls Try.prog 64 #[.pointer (some ⟨tb, 0, none⟩)] x1 fun e w' => (∃ r, e = .returned r) ∧ ∃ t', Fol t 5 s.x s.y s.n t' ∧ TrAt w1 H tb t' w') from (fresh_any T2.out (by have := HU.out.2.2.2.n; omega)).mono (by
      rintro e w' ⟨h1, h3⟩
      refine ⟨h1, _, ⟨i, by rw [← HU.out.1]; exact HU.out.2.1, ?_⟩, h3⟩
      rw [if_neg e0, if_neg e2, if_neg e3', if_neg e4, if_pos rfl, ← HU.out.1]))
    clear e0 e2 e3' e4
    go_wp2_with (go_at_call 64; refine L1.out.mono ?_; rintro e x3 ⟨⟨r3, rfl⟩, t3, hF3, hT3⟩)
    go_end0
    exact ⟨⟨_, rfl⟩, EN.out _ _ hF3 hT3⟩
  by_cases e15 : k = 15
  · subst e15
    have hn0 := HH.out.2.2 rfl
    obtain ⟨ns, hns⟩ : ∃ ns : Nat, s.n = (ns : Int) := ⟨s.n.toNat, by omega⟩
    cases ho : u.ld.getD i none with
    | none =>
      obtain rfl : z = -1 := HZ.out.2.1 ho
      have HO := (show Hid (Fol t 15 s.x s.y s.n u) from ⟨i, by rw [← HU.out.1]; exact HU.out.2.1, by rw [if_neg e0, if_neg e2, if_neg e3', if_neg e4, if_neg e5, if_pos rfl, ← HU.out.1, ho]⟩)
      have dz : decide ((0 : Int) ≤ -1) = false := by decide
      clear ho e0 e2 e3' e4 e5 hns hn0
      go_wp2_with fail
      go_quiet (fail)
      go_wp2_with fail
      go_end0
      exact ⟨⟨_, rfl⟩, EN.out _ _ HO.out (T2.out.below ⟨rfl, rfl, rfl, Nat.le_refl _, fun _ _ => rfl⟩)⟩
    | some b =>
      obtain rfl : z = (b : Int) := HZ.out.2.2 b ho
      have hb0 : (0 : Int) ≤ (b : Int) := by omega
      have hb1 : decide ((0 : Int) ≤ (b : Int)) = true := by simp
      have hbd := HBD.out b ho
      obtain ⟨R1, hq1, hr1⟩ := T2.out.ex
      obtain ⟨g3, c3, g4, c4, q1, q2, q3, q4, q5, q6⟩ := TrR.bd T2.out.wf hq1 hr1 hbd
      obtain ⟨nd, hnd⟩ : ∃ nd, nd = u.da.length := ⟨_, rfl⟩
      have hbn : (b : Int) < (nd : Int) := by omega
      have k4 := hq1.cells.2.2.2.2
      rw [q4, ← hnd] at k4
      obtain ⟨sb, hsb⟩ : ∃ sb, sb = u.sa.getD b 0 := ⟨_, rfl⟩
      rw [← hsb] at q5
      rw [hns] at a3
      by_cases hlt : ns < sb
      · have hl1 : decide ((ns : Int) < (sb : Int)) = true := by simp; omega
        have hl2 : decide (ns < sb) = true := by simpa using hlt
        have hl3 : (ns : Int) < (sb : Int) := by omega
        have SA := (show Hid (∀ q, TrAt w1 H tb (u.setS b ns) ((x1.drewN q).setCell ⟨g4, b, none⟩ (.int .i64 (ns : Int))).drew ∧ Fol t 15 s.x s.y s.n (u.setS b ns)) from fun q => by
          have BD : Below x1.heap.size x1 (x1.drewN q) := ⟨rfl, rfl, rfl, Nat.le_refl _, fun _ _ => rfl⟩
          obtain ⟨R', m1, m2⟩ := TrAt.setA (hq1.below BD) hr1 (b := b) q4 ns
          have hw := T2.out.wf
          refine ⟨TrAt.below ⟨⟨hw.l1, hw.l2, by simp [Tr.setS, hw.l3], hw.nd, hw.b1, hw.b2⟩, R', m1, m2⟩ (Below.refl _ _).drew, i, by rw [← HU.out.1]; exact HU.out.2.1, ?_⟩
          rw [if_neg e0, if_neg e2, if_neg e3', if_neg e4, if_neg e5, if_pos rfl, ← HU.out.1, ho]
          simp only
          rw [if_pos (by rw [hns, ← hsb]; omega), hns]
          simp)
        clear ho e0 e2 e3' e4 e5 hbd hq1 hr1 q1 q4 hnd hns hn0 hsb hlt
        go_wp2_with fail
        go_quiet (fail)
        have k4n : (x1.drewN nq).cell? ⟨tb, 4, none⟩ = some (.slice (some ⟨g4, 0, none⟩) nd c4) := k4
        have q5n : (x1.drewN nq).cell? ⟨g4, b, none⟩ = some (.int .i64 (sb : Int)) := q5
        have q6n : (x1.drewN nq).frozen? ⟨g4, b, none⟩ = false := q6
        have a3n : (x1.drewN nq).cell? ⟨w.heap.size, 3, none⟩ = some (.int .i64 (ns : Int)) := a3
        have k4d : (x1.drewN nq).drew.cell? ⟨tb, 4, none⟩ = some (.slice (some ⟨g4, 0, none⟩) nd c4) := k4
        have q5d : (x1.drewN nq).drew.cell? ⟨g4, b, none⟩ = some (.int .i64 (sb : Int)) := q5
        have q6d : (x1.drewN nq).drew.frozen? ⟨g4, b, none⟩ = false := q6
        have a3d : (x1.drewN nq).drew.cell? ⟨w.heap.size, 3, none⟩ = some (.int .i64 (ns : Int)) := a3
        have SN := (show Hid _ from SA.out nq)
        clear SA
        go_wp2_with fail
        go_region
        go_wp2_with fail
        go_end0
        exact ⟨⟨_, rfl⟩, EN.out _ _ SN.out.2 SN.out.1⟩
      · have hl1 : decide ((ns : Int) < (sb : Int)) = false := by simp; omega
        have hl2 : decide (ns < sb) = false := by simpa using hlt
        have hl3 : ¬ (ns : Int) < (sb : Int) := by omega
        have HO := (show Hid (Fol t 15 s.x s.y s.n u) from ⟨i, by rw [← HU.out.1]; exact HU.out.2.1, by
          rw [if_neg e0, if_neg e2, if_neg e3', if_neg e4, if_neg e5, if_pos rfl, ← HU.out.1, ho]
          simp only
          rw [if_neg (by rw [hns, ← hsb]; omega)]⟩)
        clear ho e0 e2 e3' e4 e5 hbd hq1 hr1 q1 q4 hnd hns hn0 hsb hlt
        go_wp2_with fail
        go_quiet (fail)
        go_wp2_with fail
        go_end0
        exact ⟨⟨_, rfl⟩, EN.out _ _ HO.out (T2.out.below ⟨rfl, rfl, rfl, Nat.le_refl _, fun _ _ => rfl⟩)⟩
  have f0 : (k == 0) = false := by simp [e0]
  have f2 : (k == 2) = false := by simp [e2]
  have f3 : (k == 3) = false := by simp [e3']
  have f4 : (k == 4) = false := by simp [e4]
  have f5 : (k == 5) = false := by simp [e5]
  have f15 : (k == 15) = false := by simp [e15]
  have HO := (show Hid (Fol t k s.x s.y s.n u) from ⟨i, by rw [← HU.out.1]; exact HU.out.2.1, by rw [if_neg e0, if_neg e2, if_neg e3', if_neg e4, if_neg e5, if_neg e15, ← HU.out.1]⟩)
  clear e0 e2 e3' e4 e5 e15
  go_wp2_with fail
  go_end0
  exact ⟨⟨_, rfl⟩, EN.out _ _ HO.out T2.out⟩
end
end Go.Proofs.Ytaddgmbglhdfdaa
/-
  Layer 11's laws: a drive and a trace beside it.
-/
namespace Go.Proofs.Ytaddgmbglhdfdaa
open Go.RowKit Go.Maps Go.Sort
/-- A drive, a trace beside it, and variables. -/
structure Nt (w2 : World) (db tb k : Nat) (σ : Ds) (t : Tr) (V : List (Nat × TypeId × Array Value)) (X : World) : Prop where
  ex : ∃ F K : Nat → Prop, DrAt X db σ F ∧ TrAt X K tb t X ∧ (∀ b, F b → ¬ K b) ∧ (∀ b, F b ∨ K b → w2.heap.size ≤ b) ∧ ∀ q ∈ V, GB X q.1 q.2.1 q.2.2 ∧ ¬ F q.1 ∧ ¬ K q.1
  ok : Okk k σ
  bl : Below w2.heap.size w2 X
theorem TrAt.turn {X X' : World} {K F : Nat → Prop} {tb : Nat} {t : Tr} (h : TrAt X K tb t X) (hT : Tn F X X') (hd : ∀ b, F b → ¬ K b) : TrAt X' K tb t X' := by
  obtain ⟨R, hq, hr⟩ := h.ex
  have hk : ∀ i, i < 5 + t.nm.length → ∀ g, (R i).v.ownBlock = some g → K g := fun i hi g e => by
    rcases hq.hg i hi g e with h9 | h9
    · exact h9
    · have := hq.rw'.lt hi e
      omega
  refine ⟨h.wf, R, ⟨hq.rw'.keep (fun i hi g e => hT.block g (hq.rw'.lt hi e) (fun hF => hd g hF (hk i hi g e))), hq.gb.tn hT (fun hF => hd _ hF hq.hb), fun i hi g e => .inl (hk i hi g e), Tn.refl _ _, hq.hb, fun b hb => Nat.lt_of_lt_of_le (hq.hl b hb) hT.size, hq.n5, hq.ty⟩, hr⟩
section
variable {w2 X : World} {db tb k : Nat} {σ : Ds} {t : Tr} {V : List (Nat × TypeId × Array Value)}
theorem Nt.below {X' : World} (h : Nt w2 db tb k σ t V X) (hB : Below X.heap.size X X') : Nt w2 db tb k σ t V X' := by
  obtain ⟨⟨F, K, h1, h2, h3, h4, h5⟩, ok, bl⟩ := h
  exact ⟨⟨F, K, h1.below hB, h2.base hB, h3, h4, fun q hq => ⟨(h5 q hq).1.below hB, (h5 q hq).2⟩⟩, ok, bl.trans (hB.mono bl.size)⟩
theorem Nt.gb (h : Nt w2 db tb k σ t V X) {g : Nat} {ty : TypeId} {cs : Array Value} (hm : (g, ty, cs) ∈ V) : GB X g ty cs := by
  obtain ⟨F, K, _, _, _, _, h5⟩ := h.ex
  exact (h5 _ hm).1
theorem Nt.forget (h : Nt w2 db tb k σ t V X) : Nt w2 db tb k σ t [] X := by
  obtain ⟨⟨F, K, h1, h2, h3, h4, h5⟩, ok, bl⟩ := h
  exact ⟨⟨F, K, h1, h2, h3, h4, fun q hq => (by cases hq)⟩, ok, bl⟩
theorem Nt.var {X' : World} {ty : TypeId} {cs : Array Value} (h : Nt w2 db tb k σ t V X) (hB : Below X.heap.size X X') (hG : GB X' X.heap.size ty cs) : Nt w2 db tb k σ t ((X.heap.size, ty, cs) :: V) X' := by
  have h' := h.below hB
  obtain ⟨⟨F, K, h1, h2, h3, h4, h5⟩, ok, bl⟩ := h
  refine ⟨⟨F, K, h1.below hB, h2.base hB, h3, h4, fun q hq => ?_⟩, ok, h'.bl⟩
  rcases List.mem_cons.1 hq with rfl | hq
  · exact ⟨hG, fun hF => by have := drat_lt h1 _ hF; simp only at this; omega, fun hK => by have := h2.hl _ hK; simp only at this; omega⟩
  · exact ⟨(h5 q hq).1.below hB, (h5 q hq).2⟩
/-- The trace has turned. -/
theorem Nt.trace {X' : World} {t' : Tr} {K : Nat → Prop} {F : Nat → Prop} (ok : Okk k σ) (bl : Below w2.heap.size w2 X) (h1 : DrAt X db σ F) (h3 : ∀ b, F b → ¬ K b) (h4 : ∀ b, F b ∨ K b → w2.heap.size ≤ b) (h5 : ∀ q ∈ V, GB X q.1 q.2.1 q.2.2 ∧ ¬ F q.1 ∧ ¬ K q.1) (hT : TrAt X K tb t' X') : Nt w2 db tb k σ t' V X' := by
  obtain ⟨K', g1, g2⟩ := hT.now
  have hz := bl.size
  refine ⟨⟨F, K', h1.tn hT.tn h3, g1, fun b hF hK => ?_, fun b hb => ?_, fun q hq => ⟨(h5 q hq).1.tn hT.tn (h5 q hq).2.2, (h5 q hq).2.1, fun hK => ?_⟩⟩, ok, tn_bel bl hT.tn (fun b hb => h4 b (.inr hb))⟩
  · rcases (g2 b hK).1 with h9 | h9
    · exact h3 b hF h9
    · have := drat_lt h1 b hF; omega
  · rcases hb with hb | hb
    · exact h4 b (.inl hb)
    · rcases (g2 b hb).1 with h9 | h9
      · exact h4 b (.inr h9)
      · omega
  · rcases (g2 _ hK).1 with h9 | h9
    · exact (h5 q hq).2.2 h9
    · have := (h5 q hq).1.lt; omega
section
attribute [local irreducible] Calls GB Ac.v DrAt anC
theorem Nt.do (h : Nt w2 db tb k σ t V X) (hk : k ≤ 134217728) (q : Int) (s : Ac) (l : Al) (hA : AcAt w2 s l) : Calls Try.prog 18 #[.pointer (some ⟨db, 0, none⟩), .agg (s.v q)] X fun e w' => (∃ u1 u2 u3 u4, ((anC (.int .i64 (σ.act q s.x s.y s.n l).1) u1 u2 u3 u4).all fun x => x.oneCell') = true ∧ e = .returned (.tuple #[.agg (anC (.int .i64 (σ.act q s.x s.y s.n l).1) u1 u2 u3 u4), .bool true])) ∧ Nt w2 db tb (k + (2 + l.d.length + l.dirs.length)) (σ.act q s.x s.y s.n l).2 t V w' := by
  obtain ⟨⟨F, K, h1, h2, h3, h4, h5⟩, ok, bl⟩ := h
  refine (do_gen h1 ok hk q s l (fun Y hY => hA.below (tn_bel bl hY (fun b hb => h4 b (.inl hb))))).mono ?_
  rintro e w' ⟨e1, hD, hT⟩
  have hz := bl.size
  refine ⟨e1, ⟨⟨Fn F X w', K, hD, h2.turn hT h3, ?_, ?_, fun p hp => ⟨(h5 p hp).1.tn hT (h5 p hp).2.1, ?_, (h5 p hp).2.2⟩⟩, ok.act hk h1 (q, s, l), tn_bel bl hT (fun b hb => h4 b (.inl hb))⟩⟩
  · rintro b (hb | hb) hK
    · exact h3 b hb hK
    · have := h2.hl b hK; omega
  · rintro b ((hb | hb) | hb)
    · exact h4 b (.inl hb)
    · omega
    · exact h4 b (.inr hb)
  · rintro (hb | hb)
    · exact (h5 p hp).2.1 hb
    · have := (h5 p hp).1.lt; omega
theorem Nt.image (h : Nt w2 db tb k σ t V X) (hk : k ≤ 134217728) : Calls Try.prog 24 #[.pointer (some ⟨db, 0, none⟩)] X fun e w' => ∃ v, e = .returned v ∧ FsAt w' X.heap.size v (tol σ (·.data) σ.st) ∧ Below X.heap.size X w' := by
  obtain ⟨F, K, h1, _⟩ := h.ex
  exact image_any h1 h.ok hk
theorem Nt.follow (h : Nt w2 db tb k σ t V X) (q : Int) (s : Ac) (hL : t.Le 90000000) (h15 : q = 15 → 0 ≤ s.n) : Calls Try.prog 26 #[.pointer (some ⟨tb, 0, none⟩), .agg (s.v q)] X fun e w' => (∃ r, e = .returned r) ∧ ∃ t', Fol t q s.x s.y s.n t' ∧ Nt w2 db tb k σ t' V w' := by
  obtain ⟨⟨F, K, h1, h2, h3, h4, h5⟩, ok, bl⟩ := h
  refine (tfollow_any h2 q s hL h15).mono ?_
  rintro e w' ⟨e1, t', hF, hT⟩
  exact ⟨e1, t', hF, Nt.trace ok bl h1 h3 h4 h5 hT⟩
theorem Nt.see (h : Nt w2 db tb k σ t V X) (hk : k ≤ 134217728) {φ : Nat → Nat} (hl : Lk t σ φ) (hi : Iv σ) (hx : ∀ x ∈ t.nm, x.length ≤ 134217728) (hn : t.nm.length ≤ 100000000) : Calls Try.prog 27 #[.pointer (some ⟨tb, 0, none⟩), .pointer (some ⟨db, 0, none⟩)] X fun e w' => e = .returned (.bool true) ∧ Nt w2 db tb k σ (t.sees (fun x => (σ.read x).2) t.nm.length) V w' := by
  obtain ⟨⟨F, K, h1, h2, h3, h4, h5⟩, ok, bl⟩ := h
  refine (see_any h2 h1 h3 (fun i hi' => ⟨(hl.read hi hi').1, fun b e => by rw [(hl.read hi hi').2 b e]⟩) hx (fun i => by have := ok.bl i; omega) hn).mono ?_
  rintro e w' ⟨e1, hT⟩
  exact ⟨e1, Nt.trace ok bl h1 h3 h4 h5 hT⟩
theorem Nt.has (h : Nt w2 db tb k σ t V X) (x d : Tx) (hs : t.Hs x d) (hL : t.Le 90000000) : Calls Try.prog 25 #[.pointer (some ⟨tb, 0, none⟩), encStr x, encStr d] X fun e w' => e = .returned (.bool true) ∧ w' = X := by
  obtain ⟨F, K, _, h2, _⟩ := h.ex
  exact has_any h2 x d hs (by have := hL.n; omega) (fun i => by have := hL.l i; omega)
/-- A new trace beside the drive. -/
theorem Nt.anew {b : Nat} {v : Value} {L : List (Tx × Tx)} (h : Nt w2 db tb k σ t V X) (hF : FsAt X b v L) (hL : L.length ≤ 50000000) (hd : (L.map (·.1)).Nodup) : Calls Try.prog 23 #[v] X fun e w' => ∃ tb', e = .returned (.pointer (some ⟨tb', 0, none⟩)) ∧ Nt w2 db tb' k σ (Tr.new L) V w' := by
  obtain ⟨⟨F, K, h1, h2, h3, h4, h5⟩, ok, bl⟩ := h
  refine (anew_any hF hL hd).mono ?_
  rintro e w' ⟨e1, w1, hT, hB, hs⟩
  refine ⟨_, e1, ?_⟩
  obtain ⟨K', g1, g2⟩ := hT.now
  have hz := bl.size
  have hz1 := hB.size
  have hBw : Below X.heap.size X w' := tn_bel hB hT.tn (fun b hb => by omega)
  refine ⟨⟨F, K', h1.below hBw, g1, fun c hF' hK => ?_, fun c hc => ?_, fun q hq => ⟨(h5 q hq).1.below hBw, (h5 q hq).2.1, fun hK => ?_⟩⟩, ok, bl.trans (hBw.mono hz)⟩
  · have h8 := drat_lt h1 c hF'
    have h9 := (g2 c hK).1
    omega
  · rcases hc with hc | hc
    · exact h4 c (.inl hc)
    · have h9 := (g2 c hc).1
      omega
  · have h8 := (h5 q hq).1.lt
    have h9 := (g2 _ hK).1
    omega
end
end
/-- The first trace beside a drive. -/
theorem nt_first {w2 X X' w1 : World} {db k : Nat} {σ : Ds} {F : Nat → Prop} {t : Tr} (h1 : DrAt X db σ F) (hF : ∀ b, F b → w2.heap.size ≤ b) (ok : Okk k σ) (bl : Below w2.heap.size w2 X) (hT : TrAt w1 (fun b => b = X.heap.size) X.heap.size t X') (hB : Below X.heap.size X w1) (hs : w1.heap.size = X.heap.size + 1) : Nt w2 db X.heap.size k σ t [] X' := by
  obtain ⟨K', g1, g2⟩ := hT.now
  have hz := bl.size
  have hz1 := hB.size
  have hBw : Below X.heap.size X X' := tn_bel hB hT.tn (fun b hb => by omega)
  refine ⟨⟨F, K', h1.below hBw, g1, fun c hF' hK => ?_, fun c hc => ?_, fun q hq => (by cases hq)⟩, ok, bl.trans (hBw.mono hz)⟩
  · have h8 := drat_lt h1 c hF'
    have h9 := (g2 c hK).1
    omega
  · rcases hc with hc | hc
    · exact hF c hc
    · have h9 := (g2 c hc).1
      omega
theorem Fol.le {t t' : Tr} {k : Int} {x y : Tx} {n : Int} (h : Fol t k x y n t') {N : Nat} (hL : t.Le N) : t'.Le (N + 4) := by
  obtain ⟨i, _, h⟩ := h
  have hu := hL.at' x
  have hS : ∀ (u : Tr) (M b s : Nat), u.Le M → (u.setS b s).Le M := fun u M b s hu => ⟨hu.n, hu.d, hu.l⟩
  split at h
  · rw [h]; exact ((hu.bod [] 0).leadAt i _).mono (by omega)
  split at h
  · rw [h]
    split
    · exact hu.mono (by omega)
    · exact hS _ _ _ _ (hu.mono (by omega))
  split at h
  · split at h
    · rw [h]; exact hu.mono (by omega)
    · obtain ⟨j, _, h⟩ := h
      rw [h]; exact (((hu.at' y).leadAt j _).leadAt i _).mono (by omega)
  split at h
  · rw [h]; exact (hu.leadAt i _).mono (by omega)
  split at h
  · rw [h]
    refine ⟨by show (t.at' x).nm.length ≤ _; have := hu.n; omega, by show (t.at' x).da.length ≤ _; have := hu.d; omega, fun j => ?_⟩
    show (((t.at' x).ld.map fun o => o.toList).getD j []).length ≤ _
    rw [List.getD, List.getElem?_map]
    cases (t.at' x).ld[j]? with
    | none => simp
    | some o => cases o <;> simp
  split at h
  · rw [h]
    split
    · exact hu.mono (by omega)
    · split
      · exact hS _ _ _ _ (hu.mono (by omega))
      · exact hu.mono (by omega)
  · rw [h]; exact hu.mono (by omega)
theorem at_nm {t : Tr} {x y : Tx} (h : y ∈ (t.at' x).nm) : y ∈ t.nm ∨ y = x := by
  unfold Tr.at' at h
  split at h
  · exact .inl h
  · have h9 : y ∈ t.nm ++ [x] := h
    simpa using h9
theorem Fol.nm {t t' : Tr} {k : Int} {x y : Tx} {n : Int} (h : Fol t k x y n t') : ∀ z ∈ t'.nm, z ∈ t.nm ∨ z = x ∨ z = y := by
  obtain ⟨i, _, h⟩ := h
  intro z hz
  have hu : z ∈ (t.at' x).nm → z ∈ t.nm ∨ z = x ∨ z = y := fun h9 => by
    rcases at_nm h9 with h8 | h8
    · exact .inl h8
    · exact .inr (.inl h8)
  split at h
  · rw [h] at hz; exact hu hz
  split at h
  · rw [h] at hz
    split at hz <;> exact hu hz
  split at h
  · split at h
    · rw [h] at hz; exact hu hz
    · obtain ⟨j, _, h⟩ := h
      rw [h] at hz
      rcases at_nm (show z ∈ ((t.at' x).at' y).nm from hz) with h9 | h9
      · exact hu h9
      · exact .inr (.inr h9)
  split at h
  · rw [h] at hz; exact hu hz
  split at h
  · rw [h] at hz; exact hu hz
  split at h
  · rw [h] at hz
    split at hz
    · exact hu hz
    · split at hz <;> exact hu hz
  · rw [h] at hz; exact hu hz
theorem new_le (L : List (Tx × Tx)) (N : Nat) (h : L.length ≤ N) (h1 : 1 ≤ N) : (Tr.new L).Le N := by
  refine ⟨by simp [Tr.new]; exact h, by simp [Tr.new]; exact h, fun i => ?_⟩
  show (((List.range L.length).map fun i => [i]).getD i []).length ≤ _
  rw [List.getD, List.getElem?_map]
  cases (List.range L.length)[i]? with
  | none => simp
  | some o => simp; omega
theorem sees_le {t : Tr} {N : Nat} (h : t.Le N) (f : Tx → Tx) (k : Nat) : (t.sees f k).Le N := by
  obtain ⟨e1, e2, e3, e4, e5⟩ := sees_eq t f k
  exact ⟨by rw [e1]; exact h.n, by rw [e5]; exact h.d, fun i => by rw [e3]; exact h.l i⟩
end Go.Proofs.Ytaddgmbglhdfdaa
/-
  The walk of DriveNothing.
-/
namespace Go.Proofs.Ytaddgmbglhdfdaa
open Go.RowKit Go.Maps Go.Sort
/-- Between the rounds. -/
def Rn (w2 : World) (db tb k N : Nat) (X : World) : Prop := ∃ σ t φ, Nt w2 db tb k σ t [] X ∧ Iv σ ∧ Lk t σ φ ∧ Da t σ φ ∧ t.Le N ∧ ∀ x ∈ t.nm, x.length ≤ 134217728
/-- Behind an act, ahead of what is seen. -/
def Mn (w2 : World) (db tb k N : Nat) (σ : Ds) (X : World) : Prop := ∃ t φ, Nt w2 db tb k σ t [] X ∧ Lk t σ φ ∧ Dp t σ φ ∧ t.Le N ∧ ∀ x ∈ t.nm, x.length ≤ 134217728
theorem new_names {σ : Ds} (hi : Iv σ) : ∀ x ∈ (Tr.new (tol σ (·.data) σ.st)).nm, x.length ≤ 134217728 := by
  intro x hx
  have hx' : x ∈ nms σ.st := by
    have h9 : x ∈ (tol σ (·.data) σ.st).map (·.1) := hx
    have e : (tol σ (·.data) σ.st).map (·.1) = nms σ.st := by simp [tol, Function.comp_def]
    rw [e] at h9
    exact h9
  obtain ⟨i, hi'⟩ := hi.std.1.mem.1 hx'
  have h8 := hi.std.2 x i hi'
  unfold isN at h8
  simp at h8
  omega
theorem tol_nodup {σ : Ds} (hi : Iv σ) : ((tol σ (·.data) σ.st).map (·.1)).Nodup := by
  have e : (tol σ (·.data) σ.st).map (·.1) = nms σ.st := by simp [tol, Function.comp_def]
  rw [e]
  exact nms_nodup hi.std.1
theorem Nt.wfd {w2 X : World} {db tb k : Nat} {σ : Ds} {t : Tr} {V : List (Nat × TypeId × Array Value)} (h : Nt w2 db tb k σ t V X) : Wfd σ := by
  obtain ⟨F, K, h1, _⟩ := h.ex
  exact wfd_of h1 h.ok
theorem tol_few {k : Nat} {σ : Ds} (ok : Okk k σ) : (tol σ (·.data) σ.st).length ≤ 2 * k := by
  rw [tol_len, ← size_nms ok.ts]
  exact ok.ss
theorem tol_new (r : Nat) : tol (Ds.new r) (·.data) (Ds.new r).st = [] := by
  have h : nms (Ds.new r).st = [] := by
    cases e : nms (Ds.new r).st with
    | nil => rfl
    | cons x l =>
      obtain ⟨i, hi⟩ := Td.nil.mem.1 (show x ∈ nms (.map []) from by
        have h9 : nms (.map []) = x :: l := e
        rw [h9]; simp)
      rw [lk_none] at hi
      cases hi
  unfold tol
  rw [h]
  rfl
theorem calm_1 {σ : Ds} (hw : Wfd σ) (hi : Iv σ) (dirs : List Bool) (cuts : List Int) : tol (σ.crash dirs cuts) (·.data) (σ.crash dirs cuts).st = crl (cr1 σ dirs) cuts ∧ Sf (σ.crash dirs cuts) := by
  have h := crash_cw dirs cuts (hi.crf dirs _ (Nat.le_refl _)).1 (crf_lt hw hi dirs _ (Nat.le_refl _))
  exact ⟨h.tol _ (fun d => rfl), h.sf⟩
theorem newd_inj (r : Nat) : (∀ x y j, lk (Ds.new r).st x = some j → lk (Ds.new r).st y = some j → x = y) ∧ Sf (Ds.new r) := ⟨fun x y j e => (by rw [show (Ds.new r).st = .map [] from rfl, lk_none] at e; cases e), fun x j e => (by rw [show (Ds.new r).sf = .map [] from rfl, lk_none] at e; cases e)⟩
theorem act15_pos {σ : Ds} {x y : Tx} {n : Int} {l : Al} (h : (σ.act 15 x y n l).1 = 0) : 0 ≤ n := by
  rw [act_15] at h
  simp only [Ds.cut] at h
  cases hf : σ.harm x n with
  | inl e =>
    rw [hf] at h
    simp only at h
    have := harm_ne hf
    omega
  | inr j => exact (harm_inr2 hf).1
theorem fs_nil (w : World) : FsAt w 0 (.slice none 0 0) [] := ⟨[], rfl, ⟨rfl, .inl ⟨rfl, rfl⟩⟩, fun _ hi => absurd hi (Nat.not_lt_zero _)⟩
def zAc : Array Value := #[.int .i64 0, .string ⟨#[]⟩, .string ⟨#[]⟩, .int .i64 0, .slice none 0 0, .slice none 0 0, .slice none 0 0]
theorem zac0 (w : World) : (zeroValue 46).run Try.prog w = .ok (.agg zAc) w := by unfold zAc; kernel_rfl
theorem zaco {s : Ac} {k : Int} : ((s.v k).all fun x => x.oneCell') = true := by unfold Ac.v; simp [Value.oneCell', encStr]
theorem zacs {s : Ac} {k : Int} : (s.v k).size = zAc.size := by unfold Ac.v zAc; rfl
theorem zacv {s : Ac} {k : Int} : (Try.prog.info? 46).map (·.size) = some (s.v k).size := by unfold Ac.v; exact size_Ac
section
attribute [local irreducible] Calls GB stC anC Ac.v
set_option maxHeartbeats 8000000 in
set_option maxRecDepth 1000000 in
theorem driveNothing_walk {w : World} (how room : Int) (p : Option Addr) (n c : Nat) (nm' dt : Nat → Tx) (pa : Option Addr) (ca : Nat) (LA : List Atp) (fl : FlIn w p nm' dt n) (fz : fsz (fls nm' dt n) ≤ 1048576) (fx : ∀ i, i < n → (nm' i).length ≤ 134217728) (fn : n ≤ 134217728) (ac : AcsAt w pa LA) (az : aesz LA ≤ 4194304) (an : LA.length ≤ 1048576) :
    Calls Try.prog 4 #[.agg (stC how room (.slice p n c)), .slice pa LA.length ca] w fun e w' => e = .returned (.bool true) ∧ Below w.heap.size w w' := by
  have HK := (show Hid (FlIn w p nm' dt n ∧ fsz (fls nm' dt n) ≤ 1048576 ∧ (∀ i, i < n → (nm' i).length ≤ 134217728) ∧ n ≤ 134217728 ∧ AcsAt w pa LA ∧ aesz LA ≤ 4194304 ∧ LA.length ≤ 1048576) from ⟨fl, fz, fx, fn, ac, az, an⟩)
  obtain ⟨na, hna⟩ : ∃ na, na = LA.length := ⟨_, rfl⟩
  have HN := (show Hid (na = LA.length) from hna)
  have hna9 : na ≤ 1048576 := by omega
  rw [← hna]
  clear fl fz fx fn ac az an hna
  go_enter Try.func4, Try.ntmps4
  go_upto_region 4 with (first
    | (refine wpList_bxB (cs := stC how room (.slice p n c)) rfl _ rfl rfl ?_; intro w1 hG1 hb1 hs1)
    | (go_at_call 8; refine (awake_any _).mono ?_; rintro e w2 ⟨rfl, hb2⟩))
  have G2 := (show Hid (GB w2 w.heap.size 24 (stC how room (.slice p n c))) from hG1.below hb2)
  have B2 := (show Hid (Below w.heap.size w w2) from bt hb1 hb2)
  have MA := (show Hid (Calls Try.prog 9 #[.agg (stC how room (.slice p n c))] w2 fun e w' => ∃ pt, e = .returned (.tuple #[.pointer pt, .bool true]) ∧ MadeR w2 w' (Ds.start how room (fls nm' dt n)) pt ∧ Below w2.heap.size w2 w') from made_any how room p n c nm' dt (HK.out.1.below B2.out) (by have := HK.out.2.1; omega) HK.out.2.2.1 HK.out.2.2.2.1)
  clear hG1 hb1 hs1 hb2
  go_upto_region 5 with (first
    | (refine wpList_ldB (cs := stC how room (.slice p n c)) rfl _ rfl w.heap.size rfl G2.out Try.underlying24 (by unfold stC; kernel_rfl) ?_)
    | (go_at_call 9; refine MA.out.mono ?_; rintro e w3 ⟨pt, rfl, hM, hb3⟩))
  have B3 := (show Hid (Below w2.heap.size w2 w3) from hb3)
  have HM := (show Hid (MadeR w2 w3 (Ds.start how room (fls nm' dt n)) pt) from hM)
  clear hM hb3 MA
  rcases HM.out with ⟨_, rfl⟩ | ⟨σ0, db, F0, hs, rfl, hD, hF⟩
  · go_wp2
    go_ret
    exact ⟨rfl, bt B2.out B3.out⟩
  have OK0 := (show Hid (Okk (fsz (fls nm' dt n)) σ0 ∧ Iv σ0) from ⟨start_okk hs, Iv.start hs⟩)
  have SI := (show Hid (_ ∧ Sf σ0 ∧ σ0.pend = []) from start_inj hs)
  have D3 := (show Hid (DrAt w3 db σ0 F0 ∧ ∀ b, F0 b → w2.heap.size ≤ b) from ⟨hD, hF⟩)
  clear HM hs hD hF
  have IM := (show Hid (Calls Try.prog 24 #[.pointer (some ⟨db, 0, none⟩)] w3 fun e w' => ∃ v, e = .returned v ∧ FsAt w' w3.heap.size v (tol σ0 (·.data) σ0.st) ∧ Below w3.heap.size w3 w') from image_any D3.out.1 OK0.out.1 (by have := HK.out.2.1; omega))
  have AN := (show Hid (∀ X v, FsAt X w3.heap.size v (tol σ0 (·.data) σ0.st) → Below w3.heap.size w3 X → Calls Try.prog 23 #[v] X fun e w' => ∃ tb, e = .returned (.pointer (some ⟨tb, 0, none⟩)) ∧ Rn w2 db tb (fsz (fls nm' dt n) + aesz (LA.take 0)) (10485761 + 4 * 0) w') from fun X v hX hB => (anew_any hX (by have := tol_few OK0.out.1; have := HK.out.2.1; omega) (tol_nodup OK0.out.2)).mono (by
    rintro e w' ⟨e1, w1', hT, hB1, hs1⟩
    have hN := nt_first (D3.out.1.below hB) D3.out.2 OK0.out.1 (bt B3.out hB) hT hB1 hs1
    obtain ⟨φ, l1, l2⟩ := new_lk OK0.out.2 hN.wfd SI.out.2.2 SI.out.2.1 SI.out.1
    exact ⟨_, e1, σ0, _, φ, hN, OK0.out.2, l1, l2, new_le _ _ (by have := tol_few OK0.out.1; have := HK.out.2.1; omega) (by omega), new_names OK0.out.2⟩))
  go_upto_region 8 with (first
    | (go_at_call 24; refine IM.out.mono ?_; rintro e w4 ⟨v4, rfl, h4, hb4⟩)
    | (go_at_call 23; refine (AN.out _ _ h4 hb4).mono ?_; rintro e w5 ⟨tb, rfl, hR5⟩))
  have R5 := (show Hid (Rn w2 db tb (fsz (fls nm' dt n) + aesz (LA.take 0)) (10485761 + 4 * 0) w5) from hR5)
  clear hR5 h4 hb4 IM AN SI OK0 D3
  have AA := (show Hid (AcsAt w2 pa LA) from HK.out.2.2.2.2.1.below B2.out)
  have KZ := (show Hid (∀ k, fsz (fls nm' dt n) + aesz (LA.take k) ≤ 5242880) from fun k => by have := HK.out.2.1; have := HK.out.2.2.2.2.2.1; have := aesz_le LA k; omega)
  go_wp2_with fail
  go_loopw [8, 9, 10, 11, 12, 13, 14] (fun tv i a1 a2 a3 a4 a5 wr => ∃ k tb : Nat, k ≤ na ∧ i = .int .i64 (k : Int) ∧ tv = .pointer (some ⟨tb, 0, none⟩) ∧ Hid (Rn w2 db tb (fsz (fls nm' dt n) + aesz (LA.take k)) (10485761 + 4 * k) wr)) (fun _ i _ _ _ _ _ _ => na - (intOf i).toNat)
  case atStart => exact ⟨0, tb, Nat.zero_le _, rfl, rfl, R5⟩
  case round =>
    obtain ⟨k, tb, hk, rfl, rfl, hR⟩ := hrel
    obtain ⟨σ, t, φ, hNt, hIv, hLk, hDa, hLe, hNm⟩ := hR.out
    obtain ⟨kk, hkk⟩ : ∃ kk, kk = fsz (fls nm' dt n) + aesz (LA.take k) := ⟨_, rfl⟩
    rw [← hkk] at hNt
    have N0 := (show Hid (Nt w2 db tb kk σ t [] wr) from hNt)
    have OKs := (show Hid (∀ i, (σ.body i).safe ≤ (σ.body i).data.length) from hNt.ok.sa)
    have MT := (show Hid (Iv σ ∧ Lk t σ φ ∧ Da t σ φ ∧ t.Le (10485761 + 4 * k) ∧ (∀ x ∈ t.nm, x.length ≤ 134217728) ∧ Wfd σ ∧ kk = fsz (fls nm' dt n) + aesz (LA.take k) ∧ kk ≤ 5242880) from ⟨hIv, hLk, hDa, hLe, hNm, hNt.wfd, hkk, by rw [hkk]; exact KZ.out k⟩)
    clear hR hNt hIv hLk hDa hLe hNm hkk
    by_cases hlt : k < na
    · have hi : (k : Int) < (na : Int) := by omega
      have hkl : k < LA.length := by have := HN.out; omega
      obtain ⟨b, o, hp, hS, hAc⟩ := AA.out k hkl
      obtain ⟨a, ha⟩ : ∃ a, a = LA[k] := ⟨_, rfl⟩
      have HA := (show Hid (aesz (LA.take (k + 1)) = aesz (LA.take k) + aez a) from by rw [ha]; exact aesz_succ LA k hkl)
      rw [← ha] at hS hAc
      obtain ⟨q, s, l⟩ := a
      have hld := (hS.below N0.out.bl).run
      have A2 := (show Hid (AcAt w2 s l) from hAc)
      have EZ := (show Hid (kk + (2 + l.d.length + l.dirs.length) = fsz (fls nm' dt n) + aesz (LA.take (k + 1)) ∧ kk + (2 + l.d.length + l.dirs.length) ≤ 5242880) from by
        have h9 := HA.out
        have h8 := KZ.out (k + 1)
        have h7 := MT.out.2.2.2.2.2.2.1
        unfold aez at h9
        simp only at h9
        exact ⟨by omega, by omega⟩)
      subst hp
      clear hS hAc ha HA hkl
      obtain ⟨ez, hez⟩ : ∃ ez, ez = 2 + l.d.length + l.dirs.length := ⟨_, rfl⟩
      have EE := (show Hid (ez = 2 + l.d.length + l.dirs.length) from hez)
      rw [← hez] at EZ
      clear hez
      obtain ⟨co, hco⟩ : ∃ co, co = (σ.act q s.x s.y s.n l).1 := ⟨_, rfl⟩
      obtain ⟨σ', hσ'⟩ : ∃ σ', σ' = (σ.act q s.x s.y s.n l).2 := ⟨_, rfl⟩
      have CS := (show Hid (co = (σ.act q s.x s.y s.n l).1 ∧ σ' = (σ.act q s.x s.y s.n l).2 ∧ Iv σ') from ⟨hco, hσ', by rw [hσ']; exact MT.out.1.step (q, s, l)⟩)
      have DO := (show Hid (∀ X V, Nt w2 db tb kk σ t V X → Calls Try.prog 18 #[.pointer (some ⟨db, 0, none⟩), .agg (s.v q)] X fun e w' => (∃ u1 u2 u3 u4, ((anC (.int .i64 co) u1 u2 u3 u4).all fun x => x.oneCell') = true ∧ e = .returned (.tuple #[.agg (anC (.int .i64 co) u1 u2 u3 u4), .bool true])) ∧ Nt w2 db tb (kk + ez) σ' t V w') from fun X V h => by
        have h9 := h.do (by have := MT.out.2.2.2.2.2.2.2; omega) q s l A2.out
        rw [← EE.out, ← hco, ← hσ'] at h9
        exact h9)
      clear hco hσ'
      go_upto_region 12 with (first
        | (refine wpList_ldAt rfl _ _ rfl b (o + k * 7) rfl _ hld ?_)
        | (refine wpList_alB (cs := zAc) rfl rfl zac0 ?_; intro x1 hG2 hb2 hs2)
        | (refine wpList_stB (cs := s.v q) rfl _ _ rfl rfl wr.heap.size rfl rfl hG2 zacv zacs zaco ?_; intro x2 hG3 hg3 hs3; have N2 := (show Hid (Nt w2 db tb kk σ t [(wr.heap.size, 46, s.v q)] x2) from N0.out.var (grown_below hb2 hg3 hb2.size (Nat.le_refl _)) hG3); clear hG2 hb2 hs2 hG3 hg3 hs3))
      clear hld N0
      obtain ⟨ab, hab⟩ : ∃ ab, ab = wr.heap.size := ⟨_, rfl⟩
      rw [← hab] at N2 ⊢
      clear hab
      go_upto_region 13 with (first
        | (have hx := N2; refine wpList_ldB (cs := s.v q) rfl _ rfl ab rfl (N2.out.gb (by simp)) Try.underlying46 zacv ?_)
        | (have hx := N2; go_at_call 18; refine (DO.out _ _ N2.out).mono ?_; rintro e x3 ⟨⟨u1, u2, u3, u4, hone, rfl⟩, hN3⟩; have N3 := (show Hid (Nt w2 db tb (kk + ez) σ' t [(ab, 46, s.v q)] x3) from hN3); clear hx N2 hN3)
        | (refine wpList_alB (cs := anC (.int .i64 0) (.int .i64 0) (.slice none 0 0) (.slice none 0 0) (.slice none 0 0)) rfl rfl (by unfold anC; exact an0) ?_; intro x4 hG2 hb2 hs2)
        | (refine wpList_stB (cs := anC (.int .i64 co) u1 u2 u3 u4) rfl _ _ rfl rfl x3.heap.size rfl rfl hG2 (by unfold anC; exact size_An) (by unfold anC; rfl) hone ?_; intro x5 hG3 hg3 hs3; have N5 := (show Hid (Nt w2 db tb (kk + ez) σ' t [(x3.heap.size, 49, anC (.int .i64 co) u1 u2 u3 u4), (ab, 46, s.v q)] x5) from N3.out.var (grown_below hb2 hg3 hb2.size (Nat.le_refl _)) hG3); clear hG2 hb2 hs2 hG3 hg3 hs3))
      clear N3 DO hone
      obtain ⟨wb, hwb⟩ : ∃ wb, wb = x3.heap.size := ⟨_, rfl⟩
      rw [← hwb] at N5 ⊢
      clear hwb
      have a0 := (ac_c (N5.out.gb (g := ab) (ty := 46) (cs := s.v q) (by simp))).1
      have b0 := (an_c (N5.out.gb (g := wb) (ty := 49) (cs := anC (.int .i64 co) u1 u2 u3 u4) (by simp))).1
      have NM := (show Hid (∀ t' : Tr, (∀ z ∈ t'.nm, z ∈ t.nm ∨ z = s.x ∨ z = s.y) → ∀ z ∈ t'.nm, z.length ≤ 134217728) from fun t' h z hz => by
        rcases h z hz with h9 | h9 | h9
        · exact MT.out.2.2.2.2.1 z h9
        · rw [h9]; exact A2.out.nx
        · rw [h9]; exact A2.out.ny)
      have KB := (show Hid (kk + ez ≤ 5242880) from EZ.out.2)
      go_upto_if 53 with fail
      obtain ⟨b13, hb13⟩ : ∃ b13, b13 = (q == 13) := ⟨_, rfl⟩
      rw [← hb13]
      go_cut [8, 13, 14] from 54 to 87 (fun tv fv kv wx => ∃ tb' : Nat, tv = .pointer (some ⟨tb', 0, none⟩) ∧ Hid (Mn w2 db tb' (kk + ez) (10485761 + 4 * (k + 1)) σ' wx))
      case first =>
        by_cases e13 : q = 13
        · subst e13
          obtain rfl : b13 = true := hb13
          have CR := (show Hid (σ' = σ.crash l.dirs l.cuts) from CS.out.2.1)
          have NL := (show Hid (∃ φ', Lk (Tr.new (tol σ' (·.data) σ'.st)) σ' φ' ∧ Da (Tr.new (tol σ' (·.data) σ'.st)) σ' φ') from by
            have h1 := N5.out.wfd
            have h2 := CS.out.2.2
            rw [CR.out] at h1 h2 ⊢
            exact new_lk h2 h1 (crash_pend _ _ _) (calm_1 MT.out.2.2.2.2.2.1 MT.out.1 l.dirs l.cuts).2 (crash_inj MT.out.1 MT.out.2.2.2.2.2.1 l.dirs l.cuts))
          have LN := (show Hid ((tol σ' (·.data) σ'.st).length ≤ 10485760 ∧ ((tol σ' (·.data) σ'.st).map (·.1)).Nodup ∧ ∀ x ∈ (Tr.new (tol σ' (·.data) σ'.st)).nm, x.length ≤ 134217728) from ⟨by have := tol_few N5.out.ok; have := KB.out; omega, tol_nodup CS.out.2.2, new_names CS.out.2.2⟩)
          have HS := (show Hid (∀ f ∈ tol σ' (·.data) σ'.st, t.Hs f.1 f.2) from fun f hf => by
            rw [CR.out, (calm_1 MT.out.2.2.2.2.2.1 MT.out.1 l.dirs l.cuts).1] at hf
            exact MT.out.2.1.crash MT.out.2.2.1 MT.out.1 MT.out.2.2.2.2.2.1 OKs.out l.dirs l.cuts f hf)
          have IMG := (show Hid (Calls Try.prog 24 #[.pointer (some ⟨db, 0, none⟩)] x5 fun e w' => ∃ v, e = .returned v ∧ FsAt w' x5.heap.size v (tol σ' (·.data) σ'.st) ∧ Below x5.heap.size x5 w') from N5.out.image (by have := KB.out; omega))
          obtain ⟨L6, hL6⟩ : ∃ L6, L6 = tol σ' (·.data) σ'.st := ⟨_, rfl⟩
          rw [← hL6] at NL LN HS IMG
          clear hL6 b0
          go_upto_region 17 with (go_at_call 24; refine IMG.out.mono ?_; rintro e x6 ⟨v6, rfl, h6, hb6⟩)
          obtain ⟨n6, hn6⟩ : ∃ n6, n6 = L6.length := ⟨_, rfl⟩
          obtain ⟨p6, c6, rfl⟩ : ∃ p c, v6 = .slice p n6 c := by rw [hn6]; exact h6.len
          have F6 := (show Hid (Nt w2 db tb (kk + ez) σ' t [] x6 ∧ FsAt x6 x5.heap.size (.slice p6 n6 c6) L6) from ⟨(N5.out.below hb6).forget, h6⟩)
          have HN6 := (show Hid (n6 = L6.length) from hn6)
          have hn69 : n6 ≤ 10485760 := by rw [hn6]; exact LN.out.1
          clear hn6 h6 hb6 N5 a0
          go_wp2_with fail
          go_loopw [14] (fun kv wz => ∃ m : Nat, m ≤ n6 ∧ kv = .int .i64 (m : Int) ∧ Hid (Nt w2 db tb (kk + ez) σ' t [] wz ∧ FsAt wz x5.heap.size (.slice p6 n6 c6) L6)) (fun kv _ => n6 - (intOf kv).toNat)
          case atStart => exact ⟨0, Nat.zero_le _, rfl, F6⟩
          case round =>
            obtain ⟨m, hm, rfl, hZ⟩ := hrel
            by_cases hlt6 : m < n6
            · have hi6 : (m : Int) < (n6 : Int) := by omega
              have hmL : m < L6.length := by have := HN6.out; omega
              obtain ⟨g, cg, pd, cd, e1, e2, e3, e4⟩ := hZ.out.2.file m hmL
              injection e1 with e1 en ec
              subst e1 ec
              have HX := (show Hid (t.Hs (L6.getD m ([], [])).1 (L6.getD m ([], [])).2) from HS.out _ (by simp [List.getD, hmL]))
              have c4 := e4.conv
              have HQ := (show Hid (∀ y, Calls Try.prog 25 #[.pointer (some ⟨tb, 0, none⟩), encStr (L6.getD m ([], [])).1, encStr (L6.getD m ([], [])).2] (wr.drewN y) fun e w' => e = .returned (.bool true) ∧ w' = wr.drewN y) from fun y => (hZ.out.1.below (show Below wr.heap.size wr (wr.drewN y) from ⟨rfl, rfl, rfl, Nat.le_refl _, fun _ _ => rfl⟩)).has _ _ HX.out (MT.out.2.2.2.1.mono (by omega)))
              generalize (L6.getD m ([], [])).1 = x at *
              generalize (L6.getD m ([], [])).2 = d at *
              generalize d.length = nd at *
              clear en HX
              go_wp2
              go_quiet ((go_at_call 25; exact Calls.quiet_of_same (HQ.out _)))
              go_wp2
              go_roundw
              case rel => exact ⟨m + 1, by omega, by go_num, hZ.out.1.below ⟨rfl, rfl, rfl, Nat.le_refl _, fun _ _ => rfl⟩, hZ.out.2.below ⟨rfl, rfl, rfl, Nat.le_refl _, fun _ _ => rfl⟩⟩
              case measure => simp [intOf]; omega
            · obtain rfl : m = n6 := by omega
              have hi6 : ¬ (m : Int) < (m : Int) := by omega
              have AN := (show Hid (Calls Try.prog 23 #[.slice p6 m c6] wr fun e w' => ∃ tb', e = .returned (.pointer (some ⟨tb', 0, none⟩)) ∧ Nt w2 db tb' (kk + ez) σ' (Tr.new L6) [] w') from hZ.out.1.anew hZ.out.2 (by have := LN.out.1; omega) LN.out.2.1)
              go_wp2_with (go_at_call 23; refine AN.out.mono ?_; rintro e x7 ⟨tb', rfl, hN7⟩)
              go_meet
              case rel =>
                obtain ⟨φ', l1, l2⟩ := NL.out
                exact ⟨tb', rfl, _, φ', hN7, l1, l2.dp, new_le _ _ (by have := LN.out.1; omega) (by omega), LN.out.2.2⟩
        · have f13 : (q == 13) = false := by simp [e13]
          have h9 : b13 = false := by rw [hb13, f13]
          clear hb13
          subst h9
          by_cases e16 : q = 16
          · subst e16
            have CR := (show Hid (σ' = Ds.new σ.room) from CS.out.2.1)
            have NL := (show Hid (∃ φ', Lk (Tr.new []) σ' φ' ∧ Da (Tr.new []) σ' φ') from by
              have h1 := N5.out.wfd
              have h2 := CS.out.2.2
              rw [CR.out] at h1 h2 ⊢
              have h9 := new_lk h2 h1 rfl (newd_inj _).2 (newd_inj _).1
              rw [tol_new] at h9
              exact h9)
            have AN := (show Hid (Calls Try.prog 23 #[.slice none 0 0] x5 fun e w' => ∃ tb', e = .returned (.pointer (some ⟨tb', 0, none⟩)) ∧ Nt w2 db tb' (kk + ez) σ' (Tr.new []) [] w') from N5.out.forget.anew (fs_nil x5) (by simp) (by simp))
            clear b0 e13
            go_wp2_with (go_at_call 23; refine AN.out.mono ?_; rintro e x7 ⟨tb', rfl, hN7⟩)
            go_meet
            case rel =>
              obtain ⟨φ', l1, l2⟩ := NL.out
              exact ⟨tb', rfl, _, φ', hN7, l1, l2.dp, new_le _ _ (by simp) (by omega), fun x hx => by cases hx⟩
          · have f16 : (q == 16) = false := by simp [e16]
            by_cases ec : co = 0
            · subst ec
              have FO := (show Hid (Calls Try.prog 26 #[.pointer (some ⟨tb, 0, none⟩), .agg (s.v q)] x5 fun e w' => (∃ r, e = .returned r) ∧ ∃ t', Fol t q s.x s.y s.n t' ∧ Nt w2 db tb (kk + ez) σ' t' [(wb, 49, anC (.int .i64 0) u1 u2 u3 u4), (ab, 46, s.v q)] w') from N5.out.follow q s (MT.out.2.2.2.1.mono (by omega)) (fun e => by subst e; exact act15_pos CS.out.1.symm))
              have NL := (show Hid (∀ t', Fol t q s.x s.y s.n t' → ∃ φ', Lk t' σ' φ' ∧ Dp t' σ' φ') from fun t' hF => by
                rw [CS.out.2.1]
                exact fol_lk MT.out.2.1 MT.out.2.2.1 MT.out.1 MT.out.2.2.2.2.2.1 OKs.out e13 e16 CS.out.1.symm hF)
              have GA := (show Hid (GB x5 ab 46 (s.v q)) from N5.out.gb (by simp))
              clear e13 e16
              go_wp2_with (first
                | (refine wpList_ldB (cs := s.v q) rfl _ rfl ab rfl GA.out Try.underlying46 zacv ?_)
                | (go_at_call 26; refine FO.out.mono ?_; rintro e x6 ⟨⟨r6, rfl⟩, t', hF6, hN6⟩))
              go_meet
              case rel =>
                obtain ⟨φ', l1, l2⟩ := NL.out t' hF6
                exact ⟨tb, rfl, t', φ', hN6.forget, l1, l2, (hF6.le MT.out.2.2.2.1).mono (by omega), NM.out t' hF6.nm⟩
            · have fc : (co == 0) = false := by simp [ec]
              have NL := (show Hid (σ' = σ) from by
                rw [CS.out.2.1]
                exact act_ne (by rw [← CS.out.1]; exact ec))
              clear e13 e16 ec
              go_wp2_with fail
              go_meet
              case rel =>
                refine ⟨tb, rfl, t, φ, N5.out.forget, ?_, ?_, MT.out.2.2.2.1.mono (by omega), MT.out.2.2.2.2.1⟩
                · rw [NL.out]; exact MT.out.2.1
                · rw [NL.out]; exact MT.out.2.2.1.dp
      case rest =>
      obtain ⟨tb', rfl, hcw⟩ := hcut
      obtain ⟨x8, hx8⟩ : ∃ x8, x8 = wc := ⟨_, rfl⟩
      rw [← hx8] at hcw ⊢
      obtain ⟨t', φ', hN8, hl8, hd8, hL8, hx8'⟩ := hcw.out
      have SEE := (show Hid (Calls Try.prog 27 #[.pointer (some ⟨tb', 0, none⟩), .pointer (some ⟨db, 0, none⟩)] x8 fun e w' => e = .returned (.bool true) ∧ Rn w2 db tb' (fsz (fls nm' dt n) + aesz (LA.take (k + 1))) (10485761 + 4 * (k + 1)) w') from (hN8.see (by have := KB.out; omega) hl8 CS.out.2.2 hx8' (by have := hL8.n; omega)).mono (by
        rintro e w' ⟨e1, hN9⟩
        obtain ⟨s1, s2⟩ := hl8.seen hd8 CS.out.2.2
        rw [EZ.out.1] at hN9
        exact ⟨e1, σ', _, φ', hN9, CS.out.2.2, s1, s2, sees_le hL8 _ _, by rw [(sees_eq t' _ _).1]; exact hx8'⟩))
      clear hx8 hcw hN8 hl8 hd8 hL8 hx8' N5 a0 b0
      go_wp2_with (go_at_call 27; refine SEE.out.mono ?_; rintro e x9 ⟨rfl, hR9⟩)
      go_roundw
      case rel => exact ⟨k + 1, tb', by omega, by go_num, rfl, hR9⟩
      case measure => simp [intOf]; omega
    · obtain rfl : k = na := by omega
      have hi : ¬ (k : Int) < (k : Int) := by omega
      have BE := (show Hid (Below w2.heap.size w2 wr) from N0.out.bl)
      go_wp2_with fail
      go_ret
      exact ⟨rfl, bt B2.out BE.out⟩
end
end Go.Proofs.Ytaddgmbglhdfdaa
