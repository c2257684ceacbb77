/-
  'Partial'.
-/
import Derived.Test.YtbjmdijphciliaaPAft
import Derived.Test.YtbjmdijphciliaaRefE
import Derived.Test.YtbjmdijphciliaaPolyA
namespace Go.Proofs.Ytbjmdijphciliaa
open Go.RowKit
/-- The first of Euclid's row whose degree is below b. -/
def First (p q : List (BitVec 8)) (b : Int) (t : Tm) : Prop :=
  (((trim p).length : Int) - 1 < b ∧ t = ⟨trim p, [1#8], []⟩) ∨ (¬ ((trim p).length : Int) - 1 < b ∧ ∃ k a, Eu p q k a t ∧ (t.g.length : Int) - 1 < b ∧ ∀ j, j < k → ∀ a' b', Eu p q j a' b' → ¬ (b'.g.length : Int) - 1 < b)
theorem First.unique {p q : List (BitVec 8)} {b : Int} {t t' : Tm} (h : First p q b t) (h' : First p q b t') : t = t' := by
  rcases h with ⟨h1, rfl⟩ | ⟨h1, k, a, h2, h3, h4⟩
  · rcases h' with ⟨_, rfl⟩ | ⟨g1, _⟩
    · rfl
    · exact absurd h1 g1
  · rcases h' with ⟨g1, _⟩ | ⟨_, k', a', g2, g3, g4⟩
    · exact absurd g1 h1
    · have hk : k = k' := by
        rcases Nat.lt_trichotomy k k' with h | h | h
        · exact absurd h3 (g4 k h _ _ h2)
        · exact h
        · exact absurd g3 (h4 k' h _ _ g2)
      subst hk
      exact (h2.det g2).2
theorem results_tmp4 {fn : Func} {t u v x : Tmp} (h : fn.results = #[.tmp t, .tmp u, .tmp v, .tmp x]) (tmps : Array Value) (P : Program) (w : World) :
    (results fn tmps).run P w = .ok (.tuple #[tmps.getD t undef, tmps.getD u undef, tmps.getD v undef, tmps.getD x undef]) w := by
  simp [results, h]
theorem partial_err (v1 v2 : Value) (b : Int) (hb : b < 0) (w : World) : Calls Try.prog 8 #[v1, v2, .int .i64 b] w fun e w' => e = .returned (.tuple #[.slice none 0 0, .slice none 0 0, .slice none 0 0, .int .i64 2]) ∧ Below w.heap.size w w' := by
  go_enter Try.func8, Try.ntmps8
  go_wp2
  (try simp only [Exit.inBlock, Exit.then])
  refine bodyPost_ret (results_tmp4 rfl _ _ _) rfl ?_
  exact ⟨rfl, Below.refl _ _⟩
theorem Rs.dN {t : TypeId} {B : Nat} {w : World} {v : Value} {xs : List (BitVec 8)} (h : Rs t B w v xs) (n : Nat) : Rs t B (w.drewN n) v xs := h.below (below_drewN (Below.refl _ _) n)
/-- The block A is a variable of these three cells. -/
def Tri (w : World) (A : Nat) (x y z : Value) : Prop := w.heap[A]? = some (.cells #[x, y, z] 52 (0, 0))
theorem Tri.lt {w : World} {A : Nat} {x y z : Value} (h : Tri w A x y z) : A < w.heap.size := lt_of_block h
theorem Tri.below {w w' : World} {A : Nat} {x y z : Value} (h : Tri w A x y z) (hb : Below w.heap.size w w') : Tri w' A x y z := by
  unfold Tri; rw [hb.block A h.lt]; exact h
theorem Tri.cells {w : World} {A : Nat} {x y z : Value} (h : Tri w A x y z) : w.cell? ⟨A, 0, none⟩ = some x ∧ w.cell? ⟨A, 1, none⟩ = some y ∧ w.cell? ⟨A, 2, none⟩ = some z := by
  refine ⟨?_, ?_, ?_⟩
  · rw [cell_of_row w A 0 _ _ _ h]; rfl
  · rw [cell_of_row w A 1 _ _ _ h]; rfl
  · rw [cell_of_row w A 2 _ _ _ h]; rfl
theorem Tri.frozen {w : World} {A : Nat} {x y z : Value} (h : Tri w A x y z) (i : Nat) : w.frozen? ⟨A, i, none⟩ = false := frozen_of_row w A i _ _ h
theorem Tri.put {w : World} {A : Nat} {x y z : Value} (h : Tri w A x y z) (x' y' z' : Value) : Tri (((w.setCell ⟨A, 0, none⟩ x').setCell ⟨A, 1, none⟩ y').setCell ⟨A, 2, none⟩ z') A x' y' z' := by
  have h1 : (w.setCell ⟨A, 0, none⟩ x').heap[A]? = some (.cells #[x', y, z] 52 (0, 0)) := by rw [heap_setCell_same w A 0 _ _ _ h]; rfl
  have h2 : ((w.setCell ⟨A, 0, none⟩ x').setCell ⟨A, 1, none⟩ y').heap[A]? = some (.cells #[x', y', z] 52 (0, 0)) := by rw [heap_setCell_same _ A 1 _ _ _ h1]; rfl
  unfold Tri
  rw [heap_setCell_same _ A 2 _ _ _ h2]; rfl
theorem Tri.other {w : World} {A L : Nat} {x y z : Value} (h : Tri w A x y z) (hL : A ≠ L) (x' y' z' : Value) : Tri (((w.setCell ⟨L, 0, none⟩ x').setCell ⟨L, 1, none⟩ y').setCell ⟨L, 2, none⟩ z') A x y z := by
  unfold Tri
  rw [heap_setCell_other _ _ _ _ hL, heap_setCell_other _ _ _ _ hL, heap_setCell_other _ _ _ _ hL]; exact h
theorem Rs.tri {B : Nat} {w : World} {v : Value} {xs : List (BitVec 8)} (h : Rs 48 B w v xs) {A : Nat} {x y z : Value} (hA : Tri w A x y z) (x' y' z' : Value) : Rs 48 B (((w.setCell ⟨A, 0, none⟩ x').setCell ⟨A, 1, none⟩ y').setCell ⟨A, 2, none⟩ z') v xs := by
  refine ⟨h.1, ?_⟩
  rcases h.2 with h1 | ⟨g, cap, cur, hv, hg, hh, hr⟩
  · exact .inl h1
  · have hne : g ≠ A := by
      intro e
      subst e
      unfold Tri at hA
      rw [hh] at hA
      injection hA with hA
      injection hA with _ hA _
      exact absurd hA (by decide)
    exact .inr ⟨g, cap, cur, hv, hg, by rw [heap_setCell_other _ _ _ _ hne, heap_setCell_other _ _ _ _ hne, heap_setCell_other _ _ _ _ hne]; exact hh, hr⟩
theorem below_tri {N : Nat} {w0 w : World} (h : Below N w0 w) {A : Nat} (hA : N ≤ A) (x' y' z' : Value) : Below N w0 (((w.setCell ⟨A, 0, none⟩ x').setCell ⟨A, 1, none⟩ y').setCell ⟨A, 2, none⟩ z') := ((h.setCell hA _).setCell hA _).setCell hA _
/-- The length of the list that a variable's first cell holds. -/
def gl (A : Nat) (w : World) : Nat := match w.cell? ⟨A, 0, none⟩ with | some v => sll v | none => 0
theorem gl_eq {w : World} {A : Nat} {x y z : Value} (h : Tri w A x y z) : gl A w = sll x := by unfold gl; rw [h.cells.1]
theorem sll_rs {t : TypeId} {B : Nat} {w : World} {v : Value} {xs : List (BitVec 8)} (h : Rs t B w v xs) : sll v = xs.length := by
  obtain ⟨p, c, rfl⟩ := h.form; rfl
theorem one_rs (t : TypeId) (w : World) {B : Nat} (hB : B ≤ w.heap.size) : Rs t B (w.alloc (.cells #[.int .u8 1] t)) (.slice (some ⟨w.heap.size, 0, none⟩) 1 1) [1#8] := by
  have ho : Own (w.alloc (.cells #[.int .u8 1] t)) t w.heap.size (co [1#8]) 1 := by unfold Own; rw [heap_alloc_new]; rfl
  exact ho.rs (xs := [1#8]) hB (by decide) (by decide) (fun _ _ => rfl)
theorem tri_new (w : World) (x y z : Value) : Tri (w.alloc (.cells #[x, y, z] 52)) w.heap.size x y z := heap_alloc_new w _
/-- What is kept along the row. -/
structure ParI (p q : List (BitVec 8)) (b : Int) (N A L : Nat) (w0 w : World) (k : Nat) (a c : Tm) (x1 y1 z1 x2 y2 z2 : Value) : Prop where
  eu : Eu p q k a c
  nf : ∀ j, j < k → ∀ a' b', Eu p q j a' b' → ¬ (b'.g.length : Int) - 1 < b
  ta : Tri w A x1 y1 z1
  tl : Tri w L x2 y2 z2
  r1 : Rs 48 N w x1 a.g
  r2 : Rs 48 N w y1 a.u
  r3 : Rs 48 N w z1 a.v
  r4 : Rs 48 N w x2 c.g
  r5 : Rs 48 N w y2 c.u
  r6 : Rs 48 N w z2 c.v
  bl : Below N w0 w
theorem ParI.step {p q : List (BitVec 8)} {b : Int} {N A L : Nat} {w0 w w4 : World} {k : Nat} {a c : Tm} {x1 y1 z1 x2 y2 z2 x y z : Value} (h : ParI p q b N A L w0 w k a c x1 y1 z1 x2 y2 z2) (hA : N ≤ A) (hL : N ≤ L) (hAL : A ≠ L) (hN : N ≤ w.heap.size) (hge : ¬ (c.g.length : Int) - 1 < b) (h0 : c.g ≠ []) {s r : List (BitVec 8)} (hd : IsDiv a.g c.g s r)
    (hx : Rs 48 w.heap.size w4 x (a.next c s r).g) (hy : Rs 48 w.heap.size w4 y (a.next c s r).u) (hz : Rs 48 w.heap.size w4 z (a.next c s r).v) (hb : Below w.heap.size w w4) :
    ParI p q b N A L w0 ((((((w4.setCell ⟨A, 0, none⟩ x2).setCell ⟨A, 1, none⟩ y2).setCell ⟨A, 2, none⟩ z2).setCell ⟨L, 0, none⟩ x).setCell ⟨L, 1, none⟩ y).setCell ⟨L, 2, none⟩ z) (k + 1) c (a.next c s r) x2 y2 z2 x y z := by
  have ta4 := h.ta.below hb
  have tl4 := h.tl.below hb
  have tl5 := tl4.other (fun e => hAL e.symm) x2 y2 z2
  refine ⟨Eu.succ h.eu h0 hd, fun j hj a' b' he => ?_, (ta4.put x2 y2 z2).other hAL x y z, tl5.put x y z, ((h.r4.below hb).tri ta4 _ _ _).tri tl5 _ _ _, ((h.r5.below hb).tri ta4 _ _ _).tri tl5 _ _ _, ((h.r6.below hb).tri ta4 _ _ _).tri tl5 _ _ _,
    ((hx.mono hN).tri ta4 _ _ _).tri tl5 _ _ _, ((hy.mono hN).tri ta4 _ _ _).tri tl5 _ _ _, ((hz.mono hN).tri ta4 _ _ _).tri tl5 _ _ _, below_tri (below_tri (h.bl.trans (hb.mono hN)) hA _ _ _) hL _ _ _⟩
  by_cases e : j = k
  · subst e
    rw [(he.det h.eu).2]; exact hge
  · exact h.nf j (by omega) a' b' he
section
attribute [local irreducible] Calls el gm trim co Rs Sl mul add
set_option maxHeartbeats 8000000 in
set_option maxRecDepth 1000000 in
theorem partial_core (v1 v2 : Value) (p q : List (BitVec 8)) (b : Int) (hb0 : 0 ≤ b) (w : World) (h1 : Sl w v1 p) (h2 : Sl w v2 q) (m1 : Hid (p.length ≤ 140737488355328)) (m2 : Hid (q.length ≤ 140737488355328)) :
    Calls Try.prog 8 #[v1, v2, .int .i64 b] w fun e w' => ∃ t x y z, e = .returned (.tuple #[x, y, z, .int .i64 0]) ∧ First p q b t ∧ Rs 48 w.heap.size w' x t.g ∧ Rs 48 w.heap.size w' y t.u ∧ Rs 48 w.heap.size w' z t.v ∧ Below w.heap.size w w' := by
  have hnb : ¬ b < 0 := by omega
  go_enter Try.func8, Try.ntmps8
  have M1 : Hid (p.length ≤ 281474976710656) := by show _ ≤ _; have := m1.out; omega
  have T1 : Hid ((trim p).length ≤ 281474976710656) := by show _ ≤ _; have := m1.out; have := trim_len p; omega
  have tt : Hid (trim (trim p) = trim p) := trim_trim p
  by_cases hP : ((trim p).length : Int) - 1 < b
  · have HF : Hid (First p q b ⟨trim p, [1#8], []⟩) := .inl ⟨hP, rfl⟩
    go_wp2_with (first
      | (go_at_call 23; refine (ptrim_any h1 M1.out).mono ?_; rintro e w1 ⟨x1, rfl, hX1, hb1⟩; obtain ⟨p1, c1, e1⟩ := hX1.form; subst e1; clear h1 h2; have B3 := ((Below.refl w1.heap.size w1).alloc (Nat.le_refl _) (.cells #[.int .u8 1] 48)).alloc (by simp) (.cells #[.slice p1 (trim p).length c1, .slice (some ⟨w1.heap.size, 0, none⟩) 1 1, .slice none 0 0] 52))
      | (go_at_call 14; refine (pdegree_any (Sl.below hX1.sl B3) T1.out).mono ?_; rintro e w' ⟨rfl, h⟩; obtain rfl := h.symm; rw [tt.out]))
    have q1 : (w1.alloc (.cells #[.int .u8 1] 48)).heap.size = w1.heap.size + 1 := by simp
    have ta0 := tri_new (w1.alloc (.cells #[.int .u8 1] 48)) (.slice p1 (trim p).length c1) (.slice (some ⟨w1.heap.size, 0, none⟩) 1 1) (.slice none 0 0)
    rw [q1] at ta0
    obtain ⟨g10, g11, g12⟩ := ta0.cells
    have o1 := (one_rs 48 w1 hb1.size).below ((Below.refl _ _).alloc (Nat.le_refl _) (.cells #[.slice p1 (trim p).length c1, .slice (some ⟨w1.heap.size, 0, none⟩) 1 1, .slice none 0 0] 52))
    go_quiet (fail)
    go_wp2
    (try simp only [Exit.inBlock, Exit.then])
    refine bodyPost_ret (results_tmp4 rfl _ _ _) rfl ?_
    exact ⟨⟨trim p, [1#8], []⟩, _, _, _, rfl, HF.out, (hX1.below B3).dN _, o1.dN _, Rs.nil _ _ _, below_drewN (bt hb1 B3) _⟩
  · have HP : Hid (¬ ((trim p).length : Int) - 1 < b) := hP
    have M2 : Hid (q.length ≤ 281474976710656) := by show _ ≤ _; have := m2.out; omega
    have T2 : Hid (∀ k a c, Eu p q k a c → c.g.length ≤ 281474976710656) := fun k a c h => by have := h.inv.lb; have := m1.out; have := m2.out; have := trim_len p; have := trim_len q; omega
    go_wp2_with (first
      | (go_at_call 23; refine (ptrim_any h1 M1.out).mono ?_; rintro e w1 ⟨x1, rfl, hX1, hb1⟩; obtain ⟨p1, c1, e1⟩ := hX1.form; subst e1; have h21 := Sl.below h2 hb1; clear h1 h2; have B3 := ((Below.refl w1.heap.size w1).alloc (Nat.le_refl _) (.cells #[.int .u8 1] 48)).alloc (by simp) (.cells #[.slice p1 (trim p).length c1, .slice (some ⟨w1.heap.size, 0, none⟩) 1 1, .slice none 0 0] 52))
      | (go_at_call 14; refine (pdegree_any (Sl.below hX1.sl B3) T1.out).mono ?_; rintro e w' ⟨rfl, h⟩; obtain rfl := h.symm; rw [tt.out])
      | (go_at_call 23; refine (ptrim_any (Sl.below h21 B3) M2.out).mono ?_; rintro e w2 ⟨x2, rfl, hX2, hb2⟩; obtain ⟨p2, c2, e2⟩ := hX2.form; subst e2))
    have N1 := hb1.size
    have N2 := hb2.size
    have N3 := B3.size
    have q1 : (w1.alloc (.cells #[.int .u8 1] 48)).heap.size = w1.heap.size + 1 := by simp
    have q2 : (w2.alloc (.cells #[.int .u8 1] 48)).heap.size = w2.heap.size + 1 := by simp
    have ta0 := tri_new (w1.alloc (.cells #[.int .u8 1] 48)) (.slice p1 (trim p).length c1) (.slice (some ⟨w1.heap.size, 0, none⟩) 1 1) (.slice none 0 0)
    have tl0 := tri_new (w2.alloc (.cells #[.int .u8 1] 48)) (.slice p2 (trim q).length c2) (.slice none 0 0) (.slice (some ⟨w2.heap.size, 0, none⟩) 1 1)
    rw [q1] at ta0
    rw [q2] at tl0
    have o1 := (one_rs 48 w1 N1).below ((Below.refl _ _).alloc (Nat.le_refl _) (.cells #[.slice p1 (trim p).length c1, .slice (some ⟨w1.heap.size, 0, none⟩) 1 1, .slice none 0 0] 52))
    have N4 : w.heap.size ≤ w2.heap.size := by simp at N2 N3; omega
    have B4 := ((Below.refl w2.heap.size w2).alloc (Nat.le_refl _) (.cells #[.int .u8 1] 48)).alloc (by simp) (.cells #[.slice p2 (trim q).length c2, .slice none 0 0, .slice (some ⟨w2.heap.size, 0, none⟩) 1 1] 52)
    have o2 := (one_rs 48 w2 N4).below ((Below.refl _ _).alloc (Nat.le_refl _) (.cells #[.slice p2 (trim q).length c2, .slice none 0 0, .slice (some ⟨w2.heap.size, 0, none⟩) 1 1] 52))
    obtain ⟨A, hA⟩ : ∃ A, w1.heap.size + 1 = A := ⟨_, rfl⟩
    obtain ⟨L, hL⟩ : ∃ L, w2.heap.size + 1 = L := ⟨_, rfl⟩
    have hAL : Hid (w.heap.size ≤ A ∧ w.heap.size ≤ L ∧ A ≠ L) := ⟨by omega, by omega, by simp at N2; omega⟩
    rw [hA] at ta0
    rw [hL] at tl0
    have I0 : ParI p q b w.heap.size A L w ((w2.alloc (.cells #[.int .u8 1] 48)).alloc (.cells #[.slice p2 (trim q).length c2, .slice none 0 0, .slice (some ⟨w2.heap.size, 0, none⟩) 1 1] 52)) 0 ⟨trim p, [1#8], []⟩ ⟨trim q, [], [1#8]⟩ (.slice p1 (trim p).length c1) (.slice (some ⟨w1.heap.size, 0, none⟩) 1 1) (.slice none 0 0) (.slice p2 (trim q).length c2) (.slice none 0 0) (.slice (some ⟨w2.heap.size, 0, none⟩) 1 1) :=
      ⟨Eu.zero, fun j hj => by omega, (ta0.below hb2).below B4, tl0, ((hX1.below B3).below hb2).below B4, (o1.below hb2).below B4, Rs.nil _ _ _, (hX2.below B4).mono (by simp; omega), Rs.nil _ _ _, o2, bt (bt (bt hb1 B3) hb2) B4⟩
    have HI := (show Hid _ from I0)
    clear I0 ta0 tl0 o1 o2 hX1 hX2 B3 B4 hb1 hb2 N1 N2 N3 N4 q1 q2 h21
    rw [hA, hL]
    go_loopw [35] (fun _ wr => ∃ k a c x1 y1 z1 x2 y2 z2, Hid (ParI p q b w.heap.size A L w wr k a c x1 y1 z1 x2 y2 z2)) (fun _ wr => gl L wr)
    case atStart => exact ⟨_, _, _, _, _, _, _, _, _, HI⟩
    case round =>
      clear HI
      obtain ⟨k, a, c, x1, y1, z1, x2, y2, z2, I⟩ := hrel
      obtain ⟨g10, g11, g12⟩ := I.out.ta.cells
      obtain ⟨g20, g21, g22⟩ := I.out.tl.cells
      have gb : Hid (trim c.g = c.g) := I.out.eu.inv.gb
      have LC : Hid (c.g.length ≤ 281474976710656) := T2.out _ _ _ I.out.eu
      have RS4 : Hid (Sl wr x2 c.g) := I.out.r4.sl
      by_cases hlt : (c.g.length : Int) - 1 < b
      · have HF : Hid (First p q b c) := .inr ⟨(by have := HP.out; omega), k, a, I.out.eu, hlt, I.out.nf⟩
        have nge : ¬ b ≤ (c.g.length : Int) - 1 := by omega
        go_wp2_with (go_at_call 14; refine (pdegree_any RS4.out LC.out).mono ?_; rintro e w' ⟨rfl, h⟩; obtain rfl := h.symm; rw [gb.out])
        go_quiet (fail)
        go_wp2
        (try simp only [Exit.inBlock, Exit.then])
        refine bodyPost_ret (results_tmp4 rfl _ _ _) rfl ?_
        exact ⟨c, _, _, _, rfl, HF.out, I.out.r4.dN _, I.out.r5.dN _, I.out.r6.dN _, below_drewN I.out.bl _⟩
      · obtain ⟨px2, cx2, ex2⟩ := I.out.r4.form
        obtain ⟨py2, cy2, ey2⟩ := I.out.r5.form
        obtain ⟨pz2, cz2, ez2⟩ := I.out.r6.form
        subst ex2 ey2 ez2
        have f10 := I.out.ta.frozen 0
        have f11 := I.out.ta.frozen 1
        have f12 := I.out.ta.frozen 2
        have f20 := I.out.tl.frozen 0
        have f21 := I.out.tl.frozen 1
        have f22 := I.out.tl.frozen 2
        have h0 : Hid (trim c.g ≠ []) := by
          intro e
          rw [gb.out] at e
          rw [e] at hlt
          simp at hlt
          omega
        have HA := (show Hid _ from fun W (hW : Below wr.heap.size wr W) => after_any (w := W) a c (I.out.r1.sl.below hW) (I.out.r2.sl.below hW) (I.out.r3.sl.below hW) (I.out.r4.sl.below hW) (I.out.r5.sl.below hW) (I.out.r6.sl.below hW) h0.out
          (by show _ ≤ _; have := I.out.eu.inv.la; have := m1.out; have := m2.out; have := trim_len p; have := trim_len q; omega) LC
          (by show _ ≤ _; have := I.out.eu.inv.ulen; have := m1.out; have := m2.out; have := trim_len p; have := trim_len q; omega) (by show _ ≤ _; have := I.out.eu.inv.ulen; have := m1.out; have := m2.out; have := trim_len p; have := trim_len q; omega)
          (fun s r hd => by have := I.out.eu.inv.sums hd; have := m1.out; have := m2.out; have := trim_len p; have := trim_len q; omega))
        have hge : b ≤ (c.g.length : Int) - 1 := by omega
        have HG : Hid (¬ (c.g.length : Int) - 1 < b) := hlt
        have d1 := (Below.refl wr.heap.size wr).drew
        go_wp2_with (go_at_call 14; refine (pdegree_any RS4.out LC.out).mono ?_; rintro e w' ⟨rfl, h⟩; obtain rfl := h.symm; rw [gb.out])
        go_region_with (go_at_call 24; refine (HA.out _ d1).mono ?_; rintro e w4 ⟨s, r, x, y, z, rfl, hd, hx, hy, hz, hb4⟩; obtain ⟨px, cx, ex⟩ := Rs.form hx; obtain ⟨py, cy, ey⟩ := Rs.form hy; obtain ⟨pz, cz, ez⟩ := Rs.form hz; subst ex ey ez; have b4 := bt d1 hb4; have ta4 : Hid (Tri w4 A x1 y1 z1) := I.out.ta.below b4; have tl4 : Hid (Tri w4 L _ _ _) := I.out.tl.below b4; obtain ⟨k10, k11, k12⟩ := Tri.cells ta4.out; obtain ⟨k20, k21, k22⟩ := Tri.cells tl4.out; have j10 := Tri.frozen ta4.out 0; have j11 := Tri.frozen ta4.out 1; have j12 := Tri.frozen ta4.out 2; have j20 := Tri.frozen tl4.out 0; have j21 := Tri.frozen tl4.out 1; have j22 := Tri.frozen tl4.out 2; have nAL := hAL.out.2.2; have nLA := hAL.out.2.2.symm)
        all_goals
          have I2 := I.out.step hAL.out.1 hAL.out.2.1 hAL.out.2.2 I.out.bl.size (by have := HG.out; omega) (by rw [← gb.out]; exact h0.out) hd hx hy hz b4
          have ms := hd.lt
          rw [gb.out] at ms
          have HM : Hid (gl L ((((((w4.setCell ⟨A, 0, none⟩ (.slice px2 c.g.length cx2)).setCell ⟨A, 1, none⟩ (.slice py2 c.u.length cy2)).setCell ⟨A, 2, none⟩ (.slice pz2 c.v.length cz2)).setCell ⟨L, 0, none⟩ (.slice px (a.next c s r).g.length cx)).setCell ⟨L, 1, none⟩ (.slice py (a.next c s r).u.length cy)).setCell ⟨L, 2, none⟩ (.slice pz (a.next c s r).v.length cz)) < gl L wr) := by
            show _ < _
            rw [gl_eq I2.tl, gl_eq I.out.tl]
            exact ms
          have HI2 := (show Hid _ from I2)
          clear I2 ms
          go_wp2
          go_roundw
          case rel => exact ⟨_, _, _, _, _, _, _, _, _, HI2⟩
          case measure => exact HM.out
end
end Go.Proofs.Ytbjmdijphciliaa
